/-
  First of paras.
-/
import Derived.Test.YtkckkchnmgidgaaPaL
import Derived.OwnWalk
namespace Go.Proofs.Ytkckkchnmgidgaa
open Go.RowKit Go.PlainAid Go.Lib
set_option linter.unusedVariables false
set_option maxRecDepth 100000
set_option maxHeartbeats 2000000

def pieceV (f t : Int) : Value := .agg #[.int .i64 f, .int .i64 t]
/-- what First answers -/
def firstV (cs : List Int) (f t : Int) : Value :=
  if f < 0 ∨ t < f ∨ (cs.length : Int) < t then .tuple #[.int .i64 0, .bool false, .int .i64 2]
  else match ansF cs t.toNat 0 f.toNat with
    | some j => .tuple #[.int .i64 (j : Nat), .bool true, .int .i64 0]
    | none => .tuple #[.int .i64 0, .bool false, .int .i64 0]
theorem first_no (a : Option Addr) (n c : Nat) (cs : List Int) (f t : Int) (w : World) (hl : cs.length = n) (hn : n ≤ 1099511627776) (hno : f < 0 ∨ t < f ∨ (n : Int) < t) :
    Calls Try.prog 31 #[.slice a n c, pieceV f t] w fun e w' => e = .returned (firstV cs f t) ∧ Below w.heap.size w w' := by
  have HV : Hid (firstV cs f t = .tuple #[.int .i64 0, .bool false, .int .i64 2]) := by
    show _ = _
    unfold firstV; rw [hl, if_pos hno]
  generalize firstV cs f t = V at *
  clear hl
  unfold pieceV
  by_cases h0 : f < 0
  · clear hno
    go_enter Try.func31, Try.ntmps31
    go_wp2
    go_ret3
    exact ⟨by rw [unhide HV]; rfl, by go_grown⟩
  · by_cases h1 : t < f
    · clear hno
      go_enter Try.func31, Try.ntmps31
      go_wp2
      go_ret3
      exact ⟨by rw [unhide HV]; rfl, by go_grown⟩
    · have h2 : (n : Int) < t := by omega
      clear hno
      go_enter Try.func31, Try.ntmps31
      go_wp2
      go_ret3
      exact ⟨by rw [unhide HV]; rfl, by go_grown⟩
theorem first_in (b off n c : Nat) (cs : List Int) (f t : Nat) (w : World) (hl : cs.length = n) (h : ReadsB w (some ⟨b, off, none⟩) cs) (hn : n ≤ 1099511627776) (hc : n ≤ c) (hcm : c ≤ 9223372036854775807) (hft : f ≤ t) (ht : t ≤ n) :
    Calls Try.prog 31 #[.slice (some ⟨b, off, none⟩) n c, pieceV f t] w fun e w' => e = .returned (firstV cs f t) ∧ Below w.heap.size w w' := by
  have hV : firstV cs f t = match frst 0 ((cs.take t).drop f) with | some j => .tuple #[.int .i64 ((f : Int) + (j : Nat)), .bool true, .int .i64 0] | none => .tuple #[.int .i64 0, .bool false, .int .i64 0] := by
    unfold firstV ansF
    rw [if_neg (by omega), Int.toNat_natCast, Int.toNat_natCast]
    cases frst 0 ((cs.take t).drop f) with
    | none => rfl
    | some j => simp [Int.add_comm]
  have hjt := fun j (hj : frst 0 ((cs.take t).drop f) = some j) => frst_lt _ _ _ hj
  rw [hV]
  clear hV
  have HJ := hide hjt
  clear hjt
  unfold pieceV
  by_cases hcf : c = f
  · subst hcf
    obtain rfl : t = c := by omega
    have hnil : (cs.take t).drop t = [] := List.drop_eq_nil_of_le (by rw [List.length_take]; omega)
    have HFR := hide (fun (w' : World) (a' : Option Addr) (c' : Nat) => firstStrong_any a' 0 c' [] w' rfl (fun k hk => by simp at hk) (by omega))
    rw [hnil, show frst 0 [] = none from rfl]
    rw [show frst 0 [] = none from rfl] at HFR
    clear h hnil HJ
    go_enter Try.func31, Try.ntmps31
    go_wp2_with (go_at_call 52; (first | simp only [Nat.sub_self] | skip); refine (unhide HFR _ _ _).mono ?_; rintro e w' ⟨rfl, hb⟩; dsimp only [optV])
    go_ret3
    exact ⟨rfl, below_box hb⟩
  · have HFR := hide (fun (w' : World) (c' : Nat) (hb : Below w.heap.size w w') => firstStrong_any (some ⟨b, off + f, none⟩) (t - f) c' ((cs.take t).drop f) w' (by rw [List.length_drop, List.length_take]; omega) ((h.below hb).part f t) (by omega))
    clear h
    cases hf : frst 0 ((cs.take t).drop f) with
    | none =>
      rw [hf] at HFR
      clear hf
      go_enter Try.func31, Try.ntmps31
      go_wp2_with (go_at_call 52; refine (unhide HFR _ _ ((Below.refl _ _).alloc (Nat.le_refl _) _)).mono ?_; rintro e w' ⟨rfl, hb⟩; dsimp only [optV])
      go_ret3
      exact ⟨rfl, below_box hb⟩
    | some j =>
      have hj := unhide HJ j hf
      rw [List.length_drop, List.length_take] at hj
      rw [hf] at HFR
      clear hf
      have hbx := fun (w' : World) (hb : Below (w.alloc (.cells #[.int .i64 (f : Int), .int .i64 (t : Int)] 46)).heap.size (w.alloc (.cells #[.int .i64 (f : Int), .int .i64 (t : Int)] 46)) w') => ((Blk.new w [.int .i64 (f : Int), .int .i64 (t : Int)] 46).below hb).cell (j := 0) rfl
      have HBX := hide hbx
      clear hbx
      go_enter Try.func31, Try.ntmps31
      go_wp2_with (go_at_call 52; refine (unhide HFR _ _ ((Below.refl _ _).alloc (Nat.le_refl _) _)).mono ?_; rintro e w' ⟨rfl, hb⟩; dsimp only [optV]; have cbx := unhide HBX w' hb)
      go_ret3
      exact ⟨by simp, below_box hb⟩
end Go.Proofs.Ytkckkchnmgidgaa

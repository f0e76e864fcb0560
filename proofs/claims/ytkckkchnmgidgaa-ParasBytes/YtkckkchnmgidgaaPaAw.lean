/-
  The law's small text: Runes of paras, known, awake.
-/
import Derived.Test.YtkckkchnmgidgaaPaSp
import Derived.Test.YtkckkchnmgidgaaPaC
import Derived.Test.YtkckkchnmgidgaaPaL
namespace Go.Proofs.Ytkckkchnmgidgaa
open Go.RowKit Go.PlainAid Go.Lib
set_option linter.unusedVariables false
set_option maxRecDepth 100000
set_option maxHeartbeats 2000000

def runesL (s : ByteArray) : List Int := (chars s 0).map fun p => ((p.2 : Nat) : Int)
theorem runesL_len (s : ByteArray) : (runesL s).length = (chars s 0).length := by simp [runesL]
theorem runeVals_L (s : ByteArray) : runeVals s = i32l (runesL s) := by simp [runeVals, runesL]
theorem paRunes_any (s : ByteArray) (w : World) (hs : s.size ≤ 70368744177664) :
    Calls Try.prog 21 #[.string s] w fun e w' => ∃ cap, e = .returned (.slice (some ⟨w.heap.size, 0, none⟩) (runesL s).length cap) ∧
      w'.ownsRow w.heap.size 21 1 (.slice (some ⟨w.heap.size, 0, none⟩) (runesL s).length cap) (runesL s).length (i32l (runesL s)) ∧ Below w.heap.size w w' := by
  have H := hide (runes_any s w hs)
  rw [runeVals_L, ← runesL_len] at H
  generalize runesL s = rs at *
  go_enter Try.func21, Try.ntmps21
  go_wp2_with (go_at_call 45; with_reducible refine (unhide H).mono ?_; rintro e w' ⟨cap, rfl, h1, h2⟩; have HH := hide (And.intro h1 h2); clear h1 h2)
  go_ret
  exact ⟨cap, rfl, (unhide HH).1, (unhide HH).2⟩

def knownL : List CharD := [⟨13, 11, 0, 0, 0, 0, false⟩, ⟨10, 11, 0, 0, 0, 0, false⟩, ⟨97, 1, 0, 0, 0, 0, false⟩, ⟨1488, 2, 0, 0, 0, 0, false⟩]
theorem known_results {tmps : Array Value} {w : World} {b : Nat} {x y : Value} (h2 : tmps.getD 0 undef = .pointer (some ⟨b, 0, none⟩)) (h : Blk w b [x, y] 25) : (results Try.f41 tmps).run Try.prog w = .ok (.agg #[x, y]) w := by
  have c0 := h.cell (j := 0) rfl
  have c1 := h.cell (j := 1) rfl
  have h2' : tmps[0]?.getD undef = .pointer (some ⟨b, 0, none⟩) := by simpa using h2
  simp [results, Try.results41, go_sem, h2', c0, c1]
theorem lknown_any (w : World) : Calls Try.prog 41 #[] w fun e w' => ∃ g, e = .returned (propsV 14 (some ⟨g, 0, none⟩) 4 4) ∧ ReadsC w' (some ⟨g, 0, none⟩) knownL ∧ Below w.heap.size w w' := by
  go_enter Try.func41, Try.ntmps41
  go_wp2
  have h0 : Blk _ w.heap.size _ _ := (Blk.new w [.int .u8 14, .slice (some ⟨w.heap.size + 1, 0, none⟩) 4 4] 25).alloc (.cells (knownL.flatMap charC).toArray 76)
  have h1 := Blk.new (w.alloc (.cells #[.int .u8 14, .slice (some ⟨w.heap.size + 1, 0, none⟩) 4 4] 25)) (knownL.flatMap charC) 76
  rw [World.size_alloc] at h1
  refine bodyPost_ret (known_results rfl h0) rfl ?_
  exact ⟨_, rfl, h1.readsC, ((Below.refl _ w).alloc (Nat.le_refl _) _).alloc (by simp) _⟩

/-! the law's small text -/
abbrev sAw : ByteArray := ⟨#[97, 13, 10, 255, 215, 144]⟩
theorem aw_runes : runesL sAw = [97, 13, 10, 65533, 1488] := by decide +kernel
theorem aw_classes : classesL 14 knownL [97, 13, 10, 65533, 1488] = [1, 11, 11, 14, 2] := by decide +kernel
theorem aw_split : splitL [97, 13, 10, 65533, 1488] [1, 11, 11, 14, 2] = [(0, 3), (3, 5)] := by decide +kernel
theorem aw_level : levV [14, 2] (-1) = .tuple #[.int .i8 1, .int .i64 0] := by
  have : levelL [14, 2] (-1) = (1, 0) := by decide +kernel
  unfold levV; rw [this]
theorem awake_any (w : World) : Calls Try.prog 15 #[] w fun e w' => e = .returned (.bool true) ∧ Below w.heap.size w w' := by
  have HR := hide (fun W => paRunes_any sAw W (by decide))
  rw [aw_runes] at HR
  have HC := hide (fun W g a c (hb : ReadsC W (some ⟨g, 0, none⟩) knownL) (h : Reads W a [97, 13, 10, 65533, 1488]) => classes_any 14 (some ⟨g, 0, none⟩) 4 4 knownL 5 c a [97, 13, 10, 65533, 1488] W rfl hb (by decide) rfl h (by decide))
  rw [aw_classes] at HC
  have HS := hide (fun W a b c d (h : Reads W a [97, 13, 10, 65533, 1488]) (k : ReadsB W b [1, 11, 11, 14, 2]) => split_any a b 5 c 5 d [97, 13, 10, 65533, 1488] [1, 11, 11, 14, 2] W rfl rfl h k (by decide) (by decide))
  rw [aw_split] at HS
  have HL := hide (fun W b c (h : ReadsB W b [14, 2]) => level_any b 2 c [14, 2] (-1) W rfl h (by decide))
  rw [aw_level] at HL
  unfold propsV at HC
  go_enter Try.func15, Try.ntmps15
  go_wp2_with fail
  refine (unhide HR _).mono ?_
  rintro e w1 ⟨cap, rfl, hr1, hb1⟩
  have HR1 := hide hr1
  have HB1 := hide hb1
  clear hr1 hb1
  go_wp2_with fail
  refine (lknown_any _).mono ?_
  rintro e w2 ⟨g, rfl, hp2, hb2⟩
  dsimp only [propsV]
  have hr2 := (reads_own (unhide HR1)).below hb2
  have HR2 := hide hr2
  have HB2 := hide ((unhide HB1).trans (hb2.mono (unhide HB1).size))
  have HP2 := hide hp2
  clear hr2 hb2 hp2
  go_wp2_with fail
  refine (unhide HC _ _ _ _ (unhide HP2) (unhide HR2)).mono ?_
  rintro e w3 ⟨rfl, hk3, hb3⟩
  have hr3 := (unhide HR2).below hb3
  have hb3' := (unhide HB2).trans (hb3.mono (unhide HB2).size)
  have e0 := hk3.cell (j := 0) rfl
  have e1 := hk3.cell (j := 1) rfl
  have e3 := hk3.cell (j := 3) rfl
  have e4 := hk3.cell (j := 4) rfl
  have HR3 := hide hr3
  have HK3 := hide hk3.readsB
  have HB3 := hide hb3'
  clear hr3 hk3 hb3 hb3'
  go_wp2_with fail
  refine (unhide HS _ _ _ _ _ (unhide HR3) (unhide HK3)).mono ?_
  rintro e w4 ⟨v, rfl, hs4, hb4⟩
  obtain ⟨sa, sc, rfl⟩ := row_is hs4
  obtain ⟨sg, rfl⟩ := row_at hs4 (by decide)
  have hk4 := (unhide HK3).below hb4
  have hb4' := (unhide HB3).trans (hb4.mono (unhide HB3).size)
  have HK4 := hide (hk4.part 3 5)
  have HB4 := hide hb4'
  have HS4 := hide hs4
  clear hs4 hk4 hb4 hb4'
  go_wp2_with fail
  refine (unhide HL _ _ _ (unhide HK4)).mono ?_
  rintro e w5 ⟨rfl, hb5⟩
  have hs5 := rowBelow (unhide HS4) hb5
  have f1 := hs5.cells rfl 1 (.int .i64 3) (by rfl)
  have f3 := hs5.cells rfl 3 (.int .i64 5) (by rfl)
  simp only [addr_add, Nat.zero_add] at f1 f3
  have HB5 := hide ((unhide HB4).trans (hb5.mono (unhide HB4).size))
  clear hs5 hb5
  go_wp2
  go_ret
  exact ⟨rfl, unhide HB5⟩
end Go.Proofs.Ytkckkchnmgidgaa

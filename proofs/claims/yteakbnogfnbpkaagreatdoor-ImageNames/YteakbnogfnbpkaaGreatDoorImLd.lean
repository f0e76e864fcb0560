/-
  Load of what is no image.
-/
import Derived.Test.YteakbnogfnbpkaaGreatDoorImCk
import Derived.Defers
import Derived.Recover
import Derived.WalkSmall
namespace Go.Proofs.YteakbnogfnbpkaaGreatDoor.Im
open Go.RowKit Go.PlainAid Go.Lib Go.Shelf Go.SuM
set_option linter.unusedVariables false
set_option linter.unusedSimpArgs false
/-- what a reader gives up with -/
abbrev gaveUp (c : Int) : Value := .iface 65 (.agg #[.int .i64 c])
theorem insist_no (c : Int) (w : World) : Calls Tryz.prog 48 #[.bool false, .int .i64 c] w fun e w' => e = .panicked [{ v := gaveUp c, recovered := false }] ∧ w' = w := by
  go_enter Tryz.func48, Tryz.ntmps48
  go_wp2
  exact ⟨rfl, rfl, rfl⟩
set_option maxRecDepth 100000 in
theorem given_any (c : Int) (w : World) : Calls Tryz.prog 9 #[gaveUp c] w fun e w' => e = .returned (.int .i64 c) ∧ Below w.heap.size w w' := by
  have HB := hide ((Below.refl w.heap.size w).alloc (Nat.le_refl _) (.cells #[.int .i64 c] 65))
  go_enter Tryz.func9, Tryz.ntmps9
  have hta : ∀ W : World, (Instr.typeAssert (gaveUp c) 20 65 true).run Tryz.prog W = .ok (.tuple #[.agg #[.int .i64 c], .bool true]) W := fun W => by kernel_rfl
  go_wp2
  go_ret
  exact ⟨rfl, unhide HB⟩
theorem open_gives (s o : ByteArray) (c : Int) (hc : ¬ c = 0) (b : Nat) (w : World) (hb : w.cell? ⟨b, 0, none⟩ = some (.string s)) (ho : Calls Tryz.prog 47 #[.string s] w fun e w' => e = .returned (.tuple #[.string o, .int .i64 c]) ∧ Below w.heap.size w w') :
    Calls Tryz.prog 24 #[.pointer (some ⟨b, 0, none⟩)] w fun e w' => e = .panicked [{ v := gaveUp c, recovered := false }] ∧ Below w.heap.size w w' := by
  have HO := hide ho
  clear ho
  have hcb : (c == 0) = false := by simpa using hc
  go_enter Tryz.func24, Tryz.ntmps24
  go_wp2_with fail
  refine (unhide HO).mono ?_
  rintro e w1 ⟨rfl, hb1⟩
  have HB := hide hb1
  clear hb1
  go_wp2_with fail
  refine (insist_no c w1).mono ?_
  rintro e w2 ⟨rfl, rfl⟩
  exact ⟨rfl, rfl, unhide HB⟩
set_option maxRecDepth 100000 in
set_option maxHeartbeats 4000000 in
/-- the deferred closure of a Load that gave up -/
theorem caught (bp bw : Nat) (c : Int) (older : List PanicEntry) (w : World) (hp : w.heap[bp]? = some (.cells #[.slice none 0 0, .slice none 0 0, .slice none 0 0, .slice none 0 0, .slice none 0 0, .slice none 0 0, .slice none 0 0, .slice none 0 0, .slice none 0 0, .slice none 0 0, .slice none 0 0, .slice none 0 0] 31 (0, 0))) (hw : w.heap[bw]? = some (.cells #[.int .i64 0] 32 (0, 0))) :
    CallsD Tryz.prog 8 #[.pointer (some ⟨bp, 0, none⟩), .pointer (some ⟨bw, 0, none⟩)] (.panicking ({ v := gaveUp c, recovered := false } :: older)) w fun e u' w' =>
      e = .returned (.tuple #[]) ∧ u' = .panicking ({ v := gaveUp c, recovered := true } :: older) ∧ ∃ w1, Below w.heap.size w w1 ∧ w' = w1.setCell ⟨bw, 0, none⟩ (.int .i64 c) := by
  refine callsD_of_wpS Tryz.func8 rfl fun c₀ cs hu => ?_
  apply wpS_seq
  apply wpS_region
  simp [wpOpsS, go_sem, recoverD, hu, Tryz.ntmps8, Exit.thenS]
  rw [show (#[Value.pointer (some { block := bp, off := 0 }), Value.pointer (some { block := bw, off := 0 })] ++ ((Array.replicate 7 undef).setIfInBounds 1 (gaveUp c)).setIfInBounds 0 (gaveUp c)) = #[.pointer (some ⟨bp, 0, none⟩), .pointer (some ⟨bw, 0, none⟩), gaveUp c, gaveUp c, undef, undef, undef, undef, undef] from rfl]
  refine wpS_of_wp ?_
  have hbd : ∀ W : World, (Instr.build 31 #[]).run Tryz.prog W = .ok noK W := fun W => by kernel_rfl
  go_wp2_with fail
  refine (given_any c w).mono ?_
  rintro e w1 ⟨rfl, hb1⟩
  have hp1 := (hb1.block _ (Array.getElem?_eq_some_iff.1 hp).1).trans hp
  have hw1 := (hb1.block _ (Array.getElem?_eq_some_iff.1 hw).1).trans hw
  have cw : w1.cell? ⟨bw, 0, none⟩ = some (.int .i64 0) := by simp [World.cell?, hw1]
  have fw : w1.frozen? ⟨bw, 0, none⟩ = false := by simp [World.frozen?, hw1]
  obtain ⟨a0, b0, s0⟩ := box_none hp1 0 (by omega)
  obtain ⟨a1, b1, s1⟩ := box_none hp1 1 (by omega)
  obtain ⟨a2, b2, s2⟩ := box_none hp1 2 (by omega)
  obtain ⟨a3, b3, s3⟩ := box_none hp1 3 (by omega)
  obtain ⟨a4, b4, s4⟩ := box_none hp1 4 (by omega)
  obtain ⟨a5, b5, s5⟩ := box_none hp1 5 (by omega)
  obtain ⟨a6, b6, s6⟩ := box_none hp1 6 (by omega)
  obtain ⟨a7, b7, s7⟩ := box_none hp1 7 (by omega)
  obtain ⟨a8, b8, s8⟩ := box_none hp1 8 (by omega)
  obtain ⟨a9, b9, s9⟩ := box_none hp1 9 (by omega)
  obtain ⟨a10, b10, s10⟩ := box_none hp1 10 (by omega)
  obtain ⟨a11, b11, s11⟩ := box_none hp1 11 (by omega)
  have HB := hide hb1
  clear hb1 hp1 hw1 hp hw
  go_wp2
  exact ⟨rfl, _, rfl, .tuple #[], by simp [results, Tryz.results8], rfl, rfl, w1, unhide HB, rfl⟩
theorem steps_any (b : Nat) (w : World) : Calls Tryz.prog 10 #[.pointer (some ⟨b, 0, none⟩)] w fun e w' => e = .returned (.slice (some ⟨w.heap.size, 0, none⟩) 8 8) ∧ Below w.heap.size w w' ∧ w'.cell? ⟨w.heap.size, 0, none⟩ = some (.func (.func 24) #[.pointer (some ⟨b, 0, none⟩)] #[]) := by
  have hmf : ∀ (fn : Fn) (first cap : Array Value) (w : World), (Instr.makeFunc fn first cap).run Tryz.prog w = .ok (.func fn first cap) w := fun _ _ _ _ => rfl
  go_enter Tryz.func10, Tryz.ntmps10
  go_wp2
  go_ret
  refine ⟨rfl, (Below.refl _ w).alloc (Nat.le_refl _) _, ?_⟩
  have h := World.alloc_heap_new w (.cells #[.func (.func 24) #[.pointer (some ⟨b, 0, none⟩)] #[], .func (.func 25) #[.pointer (some ⟨b, 0, none⟩)] #[], .func (.func 26) #[.pointer (some ⟨b, 0, none⟩)] #[], .func (.func 27) #[.pointer (some ⟨b, 0, none⟩)] #[], .func (.func 28) #[.pointer (some ⟨b, 0, none⟩)] #[], .func (.func 29) #[.pointer (some ⟨b, 0, none⟩)] #[], .func (.func 30) #[.pointer (some ⟨b, 0, none⟩)] #[], .func (.func 31) #[.pointer (some ⟨b, 0, none⟩)] #[]] 1)
  simp only [World.cell?, h]
  rfl
set_option maxRecDepth 100000 in
set_option maxHeartbeats 4000000 in
theorem load_gave (s o : ByteArray) (c : Int) (hc : ¬ c = 0) (w : World) (ho : ∀ W, Below w.heap.size w W → Calls Tryz.prog 47 #[.string s] W fun e w' => e = .returned (.tuple #[.string o, .int .i64 c]) ∧ Below W.heap.size W w') :
    Calls Tryz.prog 5 #[.string s] w fun e w' => e = .returned (.tuple #[noK, .int .i64 c]) ∧ Below w.heap.size w w' := by
  have hmf : ∀ (fn : Fn) (first cap : Array Value) (w : World), (Instr.makeFunc fn first cap).run Tryz.prog w = .ok (.func fn first cap) w := fun _ _ _ _ => rfl
  have HO := hide ho
  clear ho
  obtain ⟨W, hW⟩ : ∃ W, W = ((w.alloc (.cells #[.slice none 0 0, .slice none 0 0, .slice none 0 0, .slice none 0 0, .slice none 0 0, .slice none 0 0, .slice none 0 0, .slice none 0 0, .slice none 0 0, .slice none 0 0, .slice none 0 0, .slice none 0 0] 31)).alloc (.cells #[.int .i64 0] 32)).alloc (.cells #[.string s, .string ⟨#[]⟩, .int .i64 0, .slice none 0 0, .slice none 0 0, .slice none 0 0, .slice none 0 0, .slice none 0 0, .slice none 0 0, .slice none 0 0, .slice none 0 0, .slice none 0 0, .slice none 0 0, .slice none 0 0, .slice none 0 0, .slice none 0 0] 41) := ⟨_, rfl⟩
  have hb0 : Below w.heap.size w W := by rw [hW]; exact ((((Below.refl _ w).alloc (Nat.le_refl _) _).alloc (by simp) _).alloc (by simp; omega) _)
  have hp0 : W.heap[w.heap.size]? = some (.cells #[.slice none 0 0, .slice none 0 0, .slice none 0 0, .slice none 0 0, .slice none 0 0, .slice none 0 0, .slice none 0 0, .slice none 0 0, .slice none 0 0, .slice none 0 0, .slice none 0 0, .slice none 0 0] 31 (0, 0)) := by
    rw [hW]
    exact (Below.heap_alloc _ _ _ (by simp; omega)).trans ((Below.heap_alloc _ _ _ (by simp)).trans (World.alloc_heap_new w _))
  have hw0 : W.heap[w.heap.size + 1]? = some (.cells #[.int .i64 0] 32 (0, 0)) := by
    rw [hW]
    refine (Below.heap_alloc _ _ _ (by simp)).trans ?_
    have := World.alloc_heap_new (w.alloc (.cells #[.slice none 0 0, .slice none 0 0, .slice none 0 0, .slice none 0 0, .slice none 0 0, .slice none 0 0, .slice none 0 0, .slice none 0 0, .slice none 0 0, .slice none 0 0, .slice none 0 0, .slice none 0 0] 31)) (.cells #[.int .i64 0] 32)
    rwa [World.size_alloc] at this
  have hr0 : W.heap[w.heap.size + 1 + 1]? = some (.cells #[.string s, .string ⟨#[]⟩, .int .i64 0, .slice none 0 0, .slice none 0 0, .slice none 0 0, .slice none 0 0, .slice none 0 0, .slice none 0 0, .slice none 0 0, .slice none 0 0, .slice none 0 0, .slice none 0 0, .slice none 0 0, .slice none 0 0, .slice none 0 0] 41 (0, 0)) := by
    rw [hW]
    have := World.alloc_heap_new ((w.alloc (.cells #[.slice none 0 0, .slice none 0 0, .slice none 0 0, .slice none 0 0, .slice none 0 0, .slice none 0 0, .slice none 0 0, .slice none 0 0, .slice none 0 0, .slice none 0 0, .slice none 0 0, .slice none 0 0] 31)).alloc (.cells #[.int .i64 0] 32)) (.cells #[.string s, .string ⟨#[]⟩, .int .i64 0, .slice none 0 0, .slice none 0 0, .slice none 0 0, .slice none 0 0, .slice none 0 0, .slice none 0 0, .slice none 0 0, .slice none 0 0, .slice none 0 0, .slice none 0 0, .slice none 0 0, .slice none 0 0, .slice none 0 0] 41)
    rwa [World.size_alloc, World.size_alloc] at this
  have HW := hide hW
  have HX := hide (And.intro hb0 (And.intro hp0 (And.intro hw0 hr0)))
  clear hW hb0 hp0 hw0 hr0
  go_enter_defers Tryz.func5, Tryz.ntmps5
  go_wp2_with fail
  rw [← unhide HW]
  refine (steps_any (w.heap.size + 1 + 1) W).mono ?_
  rintro e w1 ⟨rfl, hb1, c0⟩
  have HB1 := hide hb1
  clear hb1
  go_wp2_with fail
  go_loopw [14] (fun v14 wr => v14 = .int .i64 0 ∧ wr = w1) (fun _ _ => 0)
  case atStart => exact ⟨rfl, rfl⟩
  case round =>
    obtain ⟨rfl, rfl⟩ := hrel
    have hr1 := ((unhide HB1).block _ (Array.getElem?_eq_some_iff.1 (unhide HX).2.2.2).1).trans (unhide HX).2.2.2
    have cr : wr.cell? ⟨w.heap.size + 1 + 1, 0, none⟩ = some (.string s) := by simp [World.cell?, hr1]
    clear hr1
    go_wp2_with fail
    refine (open_gives s o c hc (w.heap.size + 1 + 1) wr cr (unhide HO wr ((unhide HX).1.trans ((unhide HB1).mono (unhide HX).1.size)))).mono ?_
    rintro e w2 ⟨rfl, hb2⟩
    have hb12 := (unhide HB1).trans (hb2.mono (unhide HB1).size)
    have hp2 := (hb12.block _ (Array.getElem?_eq_some_iff.1 (unhide HX).2.1).1).trans (unhide HX).2.1
    have hw2 := (hb12.block _ (Array.getElem?_eq_some_iff.1 (unhide HX).2.2.1).1).trans (unhide HX).2.2.1
    have hbw : Below w.heap.size w w2 := (unhide HX).1.trans (hb12.mono (unhide HX).1.size)
    refine leaves_cons (f := 8) (args := #[.pointer (some ⟨w.heap.size, 0, none⟩), .pointer (some ⟨w.heap.size + 1, 0, none⟩)]) (by simp) (by simp [go_sem]) ?_
    refine (caught w.heap.size (w.heap.size + 1) c [] w2 hp2 hw2).mono ?_
    rintro e u' w3 ⟨rfl, rfl, w4, hb4, rfl⟩
    have hp4 := (hb4.block _ (Array.getElem?_eq_some_iff.1 hp2).1).trans hp2
    have hw4 := (hb4.block _ (Array.getElem?_eq_some_iff.1 hw2).1).trans hw2
    have hp5 : (w4.setCell ⟨w.heap.size + 1, 0, none⟩ (.int .i64 c)).heap[w.heap.size]? = some (.cells #[.slice none 0 0, .slice none 0 0, .slice none 0 0, .slice none 0 0, .slice none 0 0, .slice none 0 0, .slice none 0 0, .slice none 0 0, .slice none 0 0, .slice none 0 0, .slice none 0 0, .slice none 0 0] 31 (0, 0)) := (Below.heap_setCell _ _ _ _ (by simp)).trans hp4
    have hw5 : (w4.setCell ⟨w.heap.size + 1, 0, none⟩ (.int .i64 c)).heap[w.heap.size + 1]? = some (.cells #[.int .i64 c] 32 (0, 0)) := by
      simp only [World.setCell, Array.getElem?_modify, if_true, hw4, Option.map_some]
      rfl
    have hb5 : Below w.heap.size w (w4.setCell ⟨w.heap.size + 1, 0, none⟩ (.int .i64 c)) := (hbw.trans (hb4.mono hbw.size)).setCell (by simp) _
    generalize w4.setCell ⟨w.heap.size + 1, 0, none⟩ (.int .i64 c) = Z at *
    have cz : Z.cell? ⟨w.heap.size + 1, 0, none⟩ = some (.int .i64 c) := by simp [World.cell?, hw5]
    obtain ⟨a0, -, -⟩ := box_none hp5 0 (by omega)
    obtain ⟨a1, -, -⟩ := box_none hp5 1 (by omega)
    obtain ⟨a2, -, -⟩ := box_none hp5 2 (by omega)
    obtain ⟨a3, -, -⟩ := box_none hp5 3 (by omega)
    obtain ⟨a4, -, -⟩ := box_none hp5 4 (by omega)
    obtain ⟨a5, -, -⟩ := box_none hp5 5 (by omega)
    obtain ⟨a6, -, -⟩ := box_none hp5 6 (by omega)
    obtain ⟨a7, -, -⟩ := box_none hp5 7 (by omega)
    obtain ⟨a8, -, -⟩ := box_none hp5 8 (by omega)
    obtain ⟨a9, -, -⟩ := box_none hp5 9 (by omega)
    obtain ⟨a10, -, -⟩ := box_none hp5 10 (by omega)
    obtain ⟨a11, -, -⟩ := box_none hp5 11 (by omega)
    refine ⟨.tuple #[noK, .int .i64 c], ?_, rfl, hb5⟩
    simp [results, Tryz.results5, go_sem, cz, a0, a1, a2, a3, a4, a5, a6, a7, a8, a9, a10, a11]
end Go.Proofs.YteakbnogfnbpkaaGreatDoor.Im

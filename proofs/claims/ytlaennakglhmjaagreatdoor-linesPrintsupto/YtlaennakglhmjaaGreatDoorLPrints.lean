/-
  LinesPrints: the line that a Line is, or the error; what is handed in stays.
-/
import Derived.Test.YtlaennakglhmjaaGreatDoorRPrint
import Derived.Test.YtlaennakglhmjaaGreatDoorLTwin
import Derived.Test.YtlaennakglhmjaaGreatDoorLUpto
namespace Go.Proofs.YtlaennakglhmjaaGreatDoor
open Go.RowKit Go.PlainAid Go.Lib Go.Shelf
set_option linter.unusedVariables false

theorem row_tx {w : World} {base g n cap : Nat} {l : List (List UInt8)} {m : List UInt8} (hn : l.length = n) (h : w.ownsRow base 9 1 (.slice (some ⟨g, 0, none⟩) (n + 1) cap) (n + 1) (strVs ((l ++ [m]).map S))) :
    TxO w (some ⟨g, 0, none⟩) l ∧ w.cell? ⟨g, n, none⟩ = some (.string (S m)) ∧ n + 1 ≤ cap ∧ cap ≤ maxLen ∧ g < w.heap.size := by
  obtain ⟨g', c', he, h1, h2, h3, h4⟩ := row_form h (by omega)
  obtain ⟨rfl, rfl⟩ : g = g' ∧ cap = c' := by simpa using he
  refine ⟨fun i x hx => ?_, ?_, h1, h2, h4⟩
  · have hi := (List.getElem?_eq_some_iff.1 hx).1
    refine ⟨g, 0, rfl, h4, ?_⟩
    rw [Nat.zero_add]
    refine (h.cellAt i (by omega)).trans ?_
    rw [List.getElem?_map, List.getElem?_map, List.getElem?_append_left (by omega), hx]; rfl
  · refine (h.cellAt n (by omega)).trans ?_
    rw [List.getElem?_map, List.getElem?_map, List.getElem?_append_right (by omega), hn]; simp

set_option maxRecDepth 100000 in
set_option maxHeartbeats 4000000 in
theorem prints_any (d : LineD) (a : Option Addr) (n c : Nat) (w : World) (hg : errTypeAt w) (hn : d.fields.length = n) (hc : n ≤ c) (hb : n ≤ 1073741824) (h : TxO w a d.fields) (hj : (joinS d.fields).size + d.name.length + d.note.length + 200 ≤ 1073741824) :
    Calls Tryz.prog 4 #[lineV d (.slice a n c)] w fun e w' => e = .returned (.bool true) ∧ Below w.heap.size w w' := by
  have HTW := hide (fun W (hB : Below w.heap.size w W) => twin_any d a n c W hn hc (by omega) (h.below hB))
  have HP := hide (fun W (b : Option Addr) (cb : Nat) (hcb : n ≤ cb) (hx : TxO W b d.fields) => print_any d b n cb W hn hcb (by omega) hx hj)
  have HRP := hide (fun W (hB : Below w.heap.size w W) => refPrint_any d a n c W hn hc (by omega) (h.below hB) hj)
  have HSM := hide (fun W (hB : Below w.heap.size w W) (b : Option Addr) (cb : Nat) (hx : TxO W b d.fields) => refSame_any d d b a n n cb c W hn hn (by omega) (by omega) hx (h.below hB))
  generalize writtenS d = X at *
  obtain ⟨no, kind, name, fields, note⟩ := d
  simp only [lineV] at *
  obtain ⟨W, hW⟩ : ∃ W, w.alloc (.cells #[.int .i64 no, .int .u8 kind, .string (S name), .slice a n c, .string (S note)] 41) = W := ⟨_, rfl⟩
  have hB : Below w.heap.size w W := by rw [← hW]; go_grown
  have gA : W.heap[w.heap.size]? = some (.cells #[.int .i64 no, .int .u8 kind, .string (S name), .slice a n c, .string (S note)] 41) := by rw [← hW]; exact heap_alloc_new w _
  have hlt : w.heap.size < W.heap.size := by rw [← hW]; simp
  obtain ⟨c0, c1, c2, c3, c4, -, -, -, -, -⟩ := box5 gA
  have HGA := hide gA
  clear gA h
  go_enter Tryz.func4, Tryz.ntmps4
  go_wp2_with fail
  refine (unhide HTW W hB).mono ?_
  rintro e w1 ⟨g, cap, rfl, hrow, hb1⟩
  obtain ⟨htx, hmk, hcap, hcm, hgl⟩ := row_tx hn hrow
  have hB1 : Below w.heap.size w w1 := hB.trans (hb1.mono hB.size)
  have hlt1 : w.heap.size < w1.heap.size := Nat.lt_of_lt_of_le hlt hb1.size
  obtain ⟨W2, hW2⟩ : ∃ W2, w1.alloc (.cells #[.int .i64 no, .int .u8 kind, .string (S name), .slice (some ⟨g, 0, none⟩) n cap, .string (S note)] 41) = W2 := ⟨_, rfl⟩
  have bel2 : Below w1.heap.size w1 W2 := by rw [← hW2]; go_grown
  have gB : W2.heap[w1.heap.size]? = some (.cells #[.int .i64 no, .int .u8 kind, .string (S name), .slice (some ⟨g, 0, none⟩) n cap, .string (S note)] 41) := by rw [← hW2]; exact heap_alloc_new w1 _
  have gA2 : W2.heap[w.heap.size]? = _ := (bel2.block w.heap.size hlt1).trans ((hb1.block w.heap.size hlt).trans (unhide HGA))
  have hB2 : Below w.heap.size w W2 := hB1.trans (bel2.mono hB1.size)
  have hlt2 : w1.heap.size < W2.heap.size := by rw [← hW2]; simp
  have hlt2' : w.heap.size < W2.heap.size := by omega
  have htx2 := htx.below bel2
  have hmk2 : W2.cell? ⟨g, n, none⟩ = some (.string (S markL)) := (bel2.cell (p := ⟨g, n, none⟩) hgl).trans hmk
  have hgl2 : g < W2.heap.size := Nat.lt_of_lt_of_le hgl bel2.size
  obtain ⟨p0, p1, p2, p3, p4, -, -, -, -, -⟩ := box5 gB
  have HP2 := hide (unhide HP W2 (some ⟨g, 0, none⟩) cap (by omega) htx2)
  have HGB := hide gB
  have HGA2 := hide gA2
  have HTX2 := hide htx2
  have HMK2 := hide hmk2
  have hm1 : maxLen = 9223372036854775807 := rfl
  rw [hm1] at hcm
  clear HTW HP HGA hb1 hrow htx hmk gB gA2 htx2 hmk2 bel2 hB1 c0 c1 c2 c3 c4 hm1
  go_wp2_with fail
  refine (unhide HP2).mono ?_
  rintro e w3 ⟨Y, code, rfl, hb3, hor⟩
  have hB3 : Below w.heap.size w w3 := hB2.trans (hb3.mono hB2.size)
  have gA3 := (hb3.block w.heap.size hlt2').trans (unhide HGA2)
  obtain ⟨e0, e1, e2, e3, e4, -, -, -, -, -⟩ := box5 gA3
  have HRP3 := hide (unhide HRP w3 hB3)
  have HOR := hide hor
  clear p0 p1 p2 p3 p4 gA3 hor HRP HP2
  go_wp2_with fail
  refine (unhide HRP3).mono ?_
  rintro e w4 ⟨Y', code', rfl, hb4, hor'⟩
  obtain ⟨rfl, rfl⟩ : Y = Y' ∧ code = code' := by
    rcases unhide HOR with ⟨rfl, rfl, k⟩ | ⟨rfl, rfl, k⟩
    · rcases hor' with ⟨rfl, rfl, _⟩ | ⟨_, _, k'⟩
      · exact ⟨rfl, rfl⟩
      · exact absurd k k'
    · rcases hor' with ⟨_, _, k'⟩ | ⟨rfl, rfl, _⟩
      · exact absurd k' k
      · exact ⟨rfl, rfl⟩
  have hB4 : Below w.heap.size w w4 := hB3.trans (hb4.mono hB3.size)
  have b24 : Below W2.heap.size W2 w4 := hb3.trans (hb4.mono hb3.size)
  have gA4 := (b24.block w.heap.size hlt2').trans (unhide HGA2)
  have gB4 := (b24.block w1.heap.size hlt2).trans (unhide HGB)
  obtain ⟨q0, q1, q2, q3, q4, -, -, -, -, -⟩ := box5 gA4
  obtain ⟨r0, r1, r2, r3, r4, -, -, -, -, -⟩ := box5 gB4
  have HSM4 := hide (unhide HSM w4 hB4 (some ⟨g, 0, none⟩) cap ((unhide HTX2).below b24))
  have HGA4 := hide gA4
  have HMK4 : Hid (w4.cell? ⟨g, n, none⟩ = some (.string (S markL))) := (b24.cell (p := ⟨g, n, none⟩) hgl2).trans (unhide HMK2)
  have hgl4 : g < w4.heap.size := Nat.lt_of_lt_of_le hgl2 b24.size
  have hlt4 : w.heap.size < w4.heap.size := Nat.lt_of_lt_of_le hlt2' b24.size
  clear e0 e1 e2 e3 e4 gA4 gB4 HRP3 HOR hor' hb3 hb4 b24 HSM HTX2 HMK2 HGA2 HGB hB3 hB2
  go_wp2_with fail
  refine (unhide HSM4).mono ?_
  rintro e w5 ⟨t, rfl, ht, hb5⟩
  obtain rfl : t = true := ht.2 (by trivial)
  have hB5 : Below w.heap.size w w5 := hB4.trans (hb5.mono hB4.size)
  have gA5 := (hb5.block w.heap.size hlt4).trans (unhide HGA4)
  obtain ⟨s0, s1, s2, s3, s4, -, -, -, -, -⟩ := box5 gA5
  have mk5 : w5.cell? ⟨g, n, none⟩ = some (.string (S markL)) := (hb5.cell (p := ⟨g, n, none⟩) hgl4).trans (unhide HMK4)
  have HG5 := hide (errType_below hg hB5)
  clear q0 q1 q2 q3 q4 r0 r1 r2 r3 r4 gA5 HSM4 HGA4 HMK4 ht hb5 hB4
  go_wp2_with fail
  refine (awake_any _ (unhide HG5)).mono ?_
  rintro e w6 ⟨rfl, hb6⟩
  go_wp2
  go_ret
  exact ⟨rfl, hB5.trans (hb6.mono hB5.size)⟩
end Go.Proofs.YtlaennakglhmjaaGreatDoor

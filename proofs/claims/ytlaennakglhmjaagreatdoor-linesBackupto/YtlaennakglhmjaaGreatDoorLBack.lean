/-
  LinesBack: what is printed is read as what it was.
-/
import Derived.Test.YtlaennakglhmjaaGreatDoorLPrint2
import Derived.Test.YtlaennakglhmjaaGreatDoorRSame
import Derived.Test.YtlaennakglhmjaaGreatDoorLUpto
namespace Go.Proofs.YtlaennakglhmjaaGreatDoor
open Go.RowKit Go.PlainAid Go.Lib Go.Shelf
set_option linter.unusedVariables false

set_option maxRecDepth 100000 in
set_option maxHeartbeats 4000000 in
theorem back_any (d : LineD) (a : Option Addr) (n c : Nat) (w : World) (hg : errTypeAt w) (hn : d.fields.length = n) (hc : n ≤ c) (hb : n ≤ 1099511627776) (h : TxO w a d.fields) (hj : (joinS d.fields).size + d.name.length + d.note.length + 200 ≤ 1073741824) :
    Calls Tryz.prog 5 #[lineV d (.slice a n c)] w fun e w' => e = .returned (.bool true) ∧ Below w.heap.size w w' := by
  have HP := hide (fun W (hB : Below w.heap.size w W) => print_any d a n c W hn hc hb (h.below hB) hj)
  have HSC := hide (fun W (hsz : (writtenS d).size ≤ 1073741824) => scan_any d.no (writtenS d) W (by omega))
  have hws : (writtenS d).size ≤ 1073741824 := by
    have h1 := headS_size d
    unfold writtenS noteS
    have e1 : (S [32]).size = 1 := rfl
    have e2 : (S [35, 32]).size = 2 := rfl
    have e3 := S_size d.note
    (repeat' split) <;> (try simp only [ByteArray.size_append]) <;> omega
  have HSM := hide (fun W (hB : Below w.heap.size w W) (b : Option Addr) (cb : Nat) (hx : TxO W b d.fields) => refSame_any d d b a n n cb c W hn hn hb hb hx (h.below hB))
  generalize writtenS d = X at *
  obtain ⟨no, kind, name, fields, note⟩ := d
  simp only [lineV] at *
  obtain ⟨W, hW⟩ : ∃ W, w.alloc (.cells #[.int .i64 no, .int .u8 kind, .string (S name), .slice a n c, .string (S note)] 41) = W := ⟨_, rfl⟩
  have hB : Below w.heap.size w W := by rw [← hW]; go_grown
  have gA : W.heap[w.heap.size]? = some (.cells #[.int .i64 no, .int .u8 kind, .string (S name), .slice a n c, .string (S note)] 41) := by rw [← hW]; exact heap_alloc_new w _
  have hlt : w.heap.size < W.heap.size := by rw [← hW]; simp
  have HGA := hide gA
  have HG1 := hide (errType_below hg hB)
  clear gA h
  go_enter Tryz.func5, Tryz.ntmps5
  go_wp2_with fail
  refine (awake_any _ (unhide HG1)).mono ?_
  rintro e w1 ⟨rfl, hb1⟩
  have gA := (hb1.block w.heap.size hlt).trans (unhide HGA)
  obtain ⟨c0, c1, c2, c3, c4, -, -, -, -, -⟩ := box5 gA
  have hB1 : Below w.heap.size w w1 := hB.trans (hb1.mono hB.size)
  have hlt1 : w.heap.size < w1.heap.size := Nat.lt_of_lt_of_le hlt hb1.size
  have HGA1 := hide gA
  clear gA HGA HG1 hb1
  go_wp2_with fail
  refine (unhide HP w1 hB1).mono ?_
  rintro e w2 ⟨Y, code, rfl, hb2, hor⟩
  have hB2 : Below w.heap.size w w2 := hB1.trans (hb2.mono hB1.size)
  have hlt2 : w.heap.size < w2.heap.size := Nat.lt_of_lt_of_le hlt1 hb2.size
  have gA := (hb2.block w.heap.size hlt1).trans (unhide HGA1)
  obtain ⟨e0, e1, e2, e3, e4, -, -, -, -, -⟩ := box5 gA
  have HGA2 := hide gA
  clear gA c0 c1 c2 c3 c4 HP HGA1 hb2 hB1
  rcases hor with ⟨rfl, rfl, hsc⟩ | ⟨rfl, rfl, -⟩
  · have HSC2 := hide (fun W => unhide HSC W hws)
    rw [hsc] at HSC2
    dsimp only at HSC2
    clear HSC hsc
    go_wp2_with fail
    refine (unhide HSC2 _).mono ?_
    rintro e w3 ⟨fv, rfl, hfr, hb3⟩
    have hB3 : Below w.heap.size w w3 := hB2.trans (hb3.mono hB2.size)
    obtain ⟨fa, fc, rfl, htx⟩ := texts_row hfr
    rw [hn]
    obtain ⟨W4, hW4⟩ : ∃ W4, w3.alloc (.cells #[.int .i64 no, .int .u8 kind, .string (S name), .slice fa n fc, .string (S note)] 41) = W4 := ⟨_, rfl⟩
    have bel4 : Below w3.heap.size w3 W4 := by rw [← hW4]; go_grown
    have g4 : W4.heap[w3.heap.size]? = some (.cells #[.int .i64 no, .int .u8 kind, .string (S name), .slice fa n fc, .string (S note)] 41) := by rw [← hW4]; exact heap_alloc_new w3 _
    have g1 : W4.heap[w.heap.size]? = _ := (bel4.block w.heap.size (Nat.lt_of_lt_of_le hlt2 hb3.size)).trans ((hb3.block w.heap.size hlt2).trans (unhide HGA2))
    have hB4 : Below w.heap.size w W4 := hB3.trans (bel4.mono hB3.size)
    obtain ⟨p0, p1, p2, p3, p4, -, -, -, -, -⟩ := box5 g4
    obtain ⟨q0, q1, q2, q3, q4, -, -, -, -, -⟩ := box5 g1
    have HSM2 := hide (unhide HSM W4 hB4 fa fc ((TxO.of htx).below bel4))
    clear e0 e1 e2 e3 e4 g1 g4 bel4 hfr htx HSM HGA2 HSC2 hb3 hB3 hB2
    go_wp2_with fail
    refine (unhide HSM2).mono ?_
    rintro e w5 ⟨t, rfl, ht, hb5⟩
    obtain rfl : t = true := ht.2 (by trivial)
    go_wp2
    go_ret
    exact ⟨rfl, hB4.trans (hb5.mono hB4.size)⟩
  · go_wp2
    go_ret
    exact ⟨rfl, hB2⟩
end Go.Proofs.YtlaennakglhmjaaGreatDoor

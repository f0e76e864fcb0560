/-
  Print of package lines and what it calls, for every line.
-/
import Derived.Test.YtlaennakglhmjaaGreatDoorLSame2
import Derived.Test.YtlaennakglhmjaaGreatDoorLShelf2
import Derived.Test.YtlaennakglhmjaaGreatDoorMixW
namespace Go.Proofs.YtlaennakglhmjaaGreatDoor
open Go.RowKit Go.PlainAid Go.Lib Go.Shelf
set_option linter.unusedVariables false

/-- texts in memory, from whatever place of a block on -/
def TxO (w : World) (a : Option Addr) (l : List (List UInt8)) : Prop := ∀ (i : Nat) (x : List UInt8), l[i]? = some x → ∃ g o, a = some ⟨g, o, none⟩ ∧ g < w.heap.size ∧ w.cell? ⟨g, o + i, none⟩ = some (.string (S x))
theorem TxO.of {w : World} {a : Option Addr} {l : List (List UInt8)} (h : TxAt w a l) : TxO w a l := by
  intro i x hx
  obtain ⟨g, h1, h2⟩ := h i x hx
  refine ⟨g, 0, h1, ?_, by rw [Nat.zero_add]; exact h2⟩
  refine Decidable.byContradiction fun hn => ?_
  have : w.heap[g]? = none := Array.getElem?_eq_none (by omega)
  simp [World.cell?, this] at h2
theorem TxO.below {w w' : World} {a : Option Addr} {l : List (List UInt8)} (h : TxO w a l) (hb : Below w.heap.size w w') : TxO w' a l := by
  intro i x hx
  obtain ⟨g, o, h1, h2, h3⟩ := h i x hx
  exact ⟨g, o, h1, Nat.lt_of_lt_of_le h2 hb.size, (hb.cell (p := ⟨g, o + i, none⟩) h2).trans h3⟩
theorem TxO.addr {w : World} {a : Option Addr} {l : List (List UInt8)} (h : TxO w a l) (h0 : 0 < l.length) : ∃ g o, a = some ⟨g, o, none⟩ ∧ g < w.heap.size ∧ ∀ (i : Nat) (x : List UInt8), l[i]? = some x → w.cell? ⟨g, o + i, none⟩ = some (.string (S x)) := by
  obtain ⟨g, o, h1, h2, -⟩ := h 0 _ (List.getElem?_eq_getElem h0)
  refine ⟨g, o, h1, h2, fun i x hx => ?_⟩
  obtain ⟨g', o', h3, _, h5⟩ := h i x hx
  rw [h1] at h3
  obtain ⟨rfl, rfl⟩ : g = g' ∧ o = o' := by simpa using h3
  exact h5
theorem S_inj {x y : List UInt8} (h : S x = S y) : x = y := by have := congrArg L h; rwa [L_S, L_S] at this

/-- the fields, with a semicolon and a blank between -/
def joinS (l : List (List UInt8)) : ByteArray := S (Lib.join l [59, 32])
def withF (b : ByteArray) (l : List (List UInt8)) : ByteArray := if l.length = 0 then b else b ++ S [32] ++ joinS l
def headS (d : LineD) : ByteArray := if d.kind = 1 then joinS d.fields else if d.kind = 2 then withF (S [64] ++ S d.name ++ S [58]) d.fields else if d.kind = 3 then withF (S [35, 32, 64, 109, 105, 115, 115, 105, 110, 103, 58]) d.fields else S []
def noteS (h : ByteArray) (note : List UInt8) : ByteArray := if note = [] then h else (if h.size = 0 then h else h ++ S [32]) ++ S [35, 32] ++ S note
def writtenS (d : LineD) : ByteArray := noteS (headS d) d.note

theorem wFields_any (a : Option Addr) (n c : Nat) (l : List (List UInt8)) (w : World) (hn : l.length = n) (hc : n ≤ c) (hb : n ≤ 140737488355328) (h : TxO w a l) (hj : (joinS l).size ≤ 140737488355328) :
    Calls Tryz.prog 59 #[.slice a n c] w fun e w' => e = .returned (.string (joinS l)) ∧ Below w.heap.size w w' := by
  have HJ : Hid (Calls Tryz.prog 74 #[.slice a n c, .string ⟨#[59, 32]⟩] w fun e w' => e = .returned (.string (joinS l)) ∧ Below w.heap.size w w') := by
    by_cases h0 : n = 0
    · subst h0
      have : l = [] := List.eq_nil_of_length_eq_zero hn
      subst this
      refine (Tryz.strings_Join_none a c _ w).mono fun e w' h => ⟨h.1, by rw [h.2]; exact Below.refl _ _⟩
    · obtain ⟨g, o, rfl, hg, hcl⟩ := h.addr (by omega)
      have hd : (l.map S).map (·.data.toList) = l := by
        rw [List.map_map]; exact (List.map_congr_left (fun x _ => by simp)).trans (List.map_id l)
      have hlen : (l.map S).length = n := by rw [List.length_map]; exact hn
      have := Tryz.strings_Join g o c (l.map S) ⟨#[59, 32]⟩ w (fun j x hx => by
        rw [List.getElem?_map] at hx
        obtain ⟨y, hy, rfl⟩ := Option.map_eq_some_iff.1 hx
        exact hcl j y hy) hg (by omega) (by omega) (by rw [hd]; rw [joinS, S_size] at hj; exact hj)
      rw [hd, hlen] at this
      exact this
  go_enter Tryz.func59, Tryz.ntmps59
  go_wp2_with fail
  refine (unhide HJ).mono ?_
  rintro e w' ⟨rfl, hb'⟩
  go_wp2
  go_ret
  exact ⟨rfl, hb'⟩

theorem withFields_any (b : ByteArray) (a : Option Addr) (n c : Nat) (l : List (List UInt8)) (w : World) (hn : l.length = n) (hc : n ≤ c) (hb : n ≤ 140737488355328) (h : TxO w a l) (hj : (joinS l).size ≤ 140737488355328) (hbs : b.size + (joinS l).size + 1 ≤ 140737488355328) :
    Calls Tryz.prog 60 #[.string b, .slice a n c] w fun e w' => e = .returned (.string (withF b l)) ∧ Below w.heap.size w w' := by
  have HJ := hide (wFields_any a n c l w hn hc hb h hj)
  have HW : Hid (withF b l = if n = 0 then b else b ++ S [32] ++ joinS l) := by show _ = _; rw [withF, hn]
  rw [HW.out]
  clear HW h
  by_cases h0 : n = 0
  · subst h0
    rw [if_pos rfl]
    go_enter Tryz.func60, Tryz.ntmps60
    go_wp2_with fail
    go_ret
    exact ⟨rfl, Below.refl _ _⟩
  · rw [if_neg h0]
    generalize joinS l = J at *
    have d0 : ((n : Int) == 0) = false := by simp; omega
    have s1 : (b ++ S [32]).size = b.size + 1 := by rw [ByteArray.size_append]; rfl
    go_enter Tryz.func60, Tryz.ntmps60
    go_wp2_with fail
    refine (unhide HJ).mono ?_
    rintro e w' ⟨rfl, hb'⟩
    go_wp2
    go_ret
    exact ⟨rfl, hb'⟩

set_option maxRecDepth 100000 in
set_option maxHeartbeats 2000000 in
theorem wHead_any (d : LineD) (a : Option Addr) (n c : Nat) (w : World) (hn : d.fields.length = n) (hc : n ≤ c) (hb : n ≤ 140737488355328) (h : TxO w a d.fields) (hj : (joinS d.fields).size + d.name.length + 100 ≤ 140737488355328) :
    Calls Tryz.prog 44 #[lineV d (.slice a n c)] w fun e w' => e = .returned (.string (headS d)) ∧ Below w.heap.size w w' := by
  obtain ⟨no, kind, name, fields, note⟩ := d
  simp only [lineV] at *
  have hwF := fun b W (hB : Below w.heap.size w W) (hbs : b.size + (joinS fields).size + 1 ≤ 140737488355328) => withFields_any b a n c fields W hn hc hb (h.below hB) (by omega) hbs
  have HF := hide (fun W (hB : Below w.heap.size w W) => wFields_any a n c fields W hn hc hb (h.below hB) (by omega))
  have hs2 : (S [64] ++ S name ++ S [58]).size = name.length + 2 := by rw [ByteArray.size_append, ByteArray.size_append, S_size, S_size, S_size]; simp; omega
  have H2 := hide (fun W (hB : Below w.heap.size w W) => hwF (S [64] ++ S name ++ S [58]) W hB (by omega))
  have H3 := hide (fun W (hB : Below w.heap.size w W) => hwF (S [35, 32, 64, 109, 105, 115, 115, 105, 110, 103, 58]) W hB (by rw [S_size]; simp; omega))
  unfold headS
  dsimp only
  obtain ⟨W, hW⟩ : ∃ W, w.alloc (.cells #[.int .i64 no, .int .u8 kind, .string (S name), .slice a n c, .string (S note)] 41) = W := ⟨_, rfl⟩
  have hB : Below w.heap.size w W := by rw [← hW]; go_grown
  have gA : W.heap[w.heap.size]? = some (.cells #[.int .i64 no, .int .u8 kind, .string (S name), .slice a n c, .string (S note)] 41) := by rw [← hW]; exact heap_alloc_new w _
  obtain ⟨c0, c1, c2, c3, c4, -, -, -, -, -⟩ := box5 gA
  clear gA hwF h
  by_cases k1 : kind = 1
  · subst k1
    rw [if_pos rfl]
    go_enter Tryz.func44, Tryz.ntmps44
    go_wp2_with fail
    refine (unhide HF W hB).mono ?_
    rintro e w' ⟨rfl, hb'⟩
    go_wp2
    go_ret
    exact ⟨rfl, hB.trans (hb'.mono hB.size)⟩
  · rw [if_neg k1]
    have d1 : (kind == 1) = false := by simpa using k1
    by_cases k2 : kind = 2
    · subst k2
      rw [if_pos rfl]
      go_enter Tryz.func44, Tryz.ntmps44
      go_wp2_with fail
      refine (unhide H2 W hB).mono ?_
      rintro e w' ⟨rfl, hb'⟩
      go_wp2
      go_ret
      exact ⟨rfl, hB.trans (hb'.mono hB.size)⟩
    · rw [if_neg k2]
      have d2 : (kind == 2) = false := by simpa using k2
      by_cases k3 : kind = 3
      · subst k3
        rw [if_pos rfl]
        go_enter Tryz.func44, Tryz.ntmps44
        go_wp2_with fail
        refine (unhide H3 W hB).mono ?_
        rintro e w' ⟨rfl, hb'⟩
        go_wp2
        go_ret
        exact ⟨rfl, hB.trans (hb'.mono hB.size)⟩
      · rw [if_neg k3]
        have d3 : (kind == 3) = false := by simpa using k3
        go_enter Tryz.func44, Tryz.ntmps44
        go_wp2
        go_ret
        exact ⟨rfl, hB⟩

theorem withF_size (b : ByteArray) (l : List (List UInt8)) : (withF b l).size ≤ b.size + (joinS l).size + 1 := by
  unfold withF
  split
  · omega
  · rw [ByteArray.size_append, ByteArray.size_append]
    have : (S [32]).size = 1 := rfl
    omega
theorem headS_size (d : LineD) : (headS d).size ≤ (joinS d.fields).size + d.name.length + 12 := by
  unfold headS
  have h1 := withF_size (S [64] ++ S d.name ++ S [58]) d.fields
  have h2 := withF_size (S [35, 32, 64, 109, 105, 115, 115, 105, 110, 103, 58]) d.fields
  rw [ByteArray.size_append, ByteArray.size_append] at h1
  have e1 : (S [64]).size = 1 := rfl
  have e2 : (S [58]).size = 1 := rfl
  have e3 : (S [35, 32, 64, 109, 105, 115, 115, 105, 110, 103, 58]).size = 11 := rfl
  have e4 := S_size d.name
  have e5 : (S []).size = 0 := rfl
  (repeat' split) <;> omega

set_option maxRecDepth 100000 in
set_option maxHeartbeats 2000000 in
theorem written_any (d : LineD) (a : Option Addr) (n c : Nat) (w : World) (hn : d.fields.length = n) (hc : n ≤ c) (hb : n ≤ 140737488355328) (h : TxO w a d.fields) (hj : (joinS d.fields).size + d.name.length + d.note.length + 200 ≤ 140737488355328) :
    Calls Tryz.prog 24 #[lineV d (.slice a n c)] w fun e w' => e = .returned (.string (writtenS d)) ∧ Below w.heap.size w w' := by
  have HH := hide (fun W (hB : Below w.heap.size w W) => wHead_any d a n c W hn hc hb (h.below hB) (by omega))
  have hhs := headS_size d
  unfold writtenS
  generalize headS d = X at *
  obtain ⟨no, kind, name, fields, note⟩ := d
  simp only [lineV] at *
  obtain ⟨W, hW⟩ : ∃ W, w.alloc (.cells #[.int .i64 no, .int .u8 kind, .string (S name), .slice a n c, .string (S note)] 41) = W := ⟨_, rfl⟩
  have hB : Below w.heap.size w W := by rw [← hW]; go_grown
  have gA : W.heap[w.heap.size]? = some (.cells #[.int .i64 no, .int .u8 kind, .string (S name), .slice a n c, .string (S note)] 41) := by rw [← hW]; exact heap_alloc_new w _
  obtain ⟨c0, c1, c2, c3, c4, -, -, -, -, -⟩ := box5 gA
  have HGA := hide gA
  clear gA h
  unfold noteS
  by_cases k1 : note = []
  · subst k1
    rw [if_pos rfl]
    go_enter Tryz.func24, Tryz.ntmps24
    go_wp2_with fail
    refine (unhide HH W hB).mono ?_
    rintro e w' ⟨rfl, hb'⟩
    have gA := (hb'.block w.heap.size (by rw [← hW]; simp)).trans (unhide HGA)
    obtain ⟨e0, e1, e2, e3, e4, -, -, -, -, -⟩ := box5 gA
    clear gA c0 c1 c2 c3 c4
    go_wp2
    go_ret
    exact ⟨rfl, hB.trans (hb'.mono hB.size)⟩
  · rw [if_neg k1]
    have kk : (note.isEmpty) = false := by cases note; exact absurd rfl k1; rfl
    have hns : (S note).size = note.length := S_size _
    by_cases k2 : X.size = 0
    · rw [if_pos k2]
      have kx : X.toList.isEmpty = true := by rw [toList_empty]; exact decide_eq_true k2
      go_enter Tryz.func24, Tryz.ntmps24
      go_wp2_with fail
      refine (unhide HH W hB).mono ?_
      rintro e w' ⟨rfl, hb'⟩
      have gA := (hb'.block w.heap.size (by rw [← hW]; simp)).trans (unhide HGA)
      obtain ⟨e0, e1, e2, e3, e4, -, -, -, -, -⟩ := box5 gA
      clear gA c0 c1 c2 c3 c4
      go_wp2
      go_ret
      exact ⟨rfl, hB.trans (hb'.mono hB.size)⟩
    · rw [if_neg k2]
      have kx : X.toList.isEmpty = false := by rw [toList_empty]; exact decide_eq_false k2
      go_enter Tryz.func24, Tryz.ntmps24
      go_wp2_with fail
      refine (unhide HH W hB).mono ?_
      rintro e w' ⟨rfl, hb'⟩
      have gA := (hb'.block w.heap.size (by rw [← hW]; simp)).trans (unhide HGA)
      obtain ⟨e0, e1, e2, e3, e4, -, -, -, -, -⟩ := box5 gA
      clear gA c0 c1 c2 c3 c4
      go_wp2
      go_ret
      exact ⟨rfl, hB.trans (hb'.mono hB.size)⟩
end Go.Proofs.YtlaennakglhmjaaGreatDoor

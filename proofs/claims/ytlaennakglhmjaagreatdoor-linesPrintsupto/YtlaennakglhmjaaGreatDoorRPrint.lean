/-
  The document's joined, Written and Print (furrowref03), for every line.
-/
import Derived.Test.YtlaennakglhmjaaGreatDoorLPrint2
import Derived.Test.YtlaennakglhmjaaGreatDoorRSame
import Derived.Test.YtlaennakglhmjaaGreatDoorRScan
namespace Go.Proofs.YtlaennakglhmjaaGreatDoor
open Go.RowKit Go.PlainAid Go.Lib Go.Shelf
set_option linter.unusedVariables false

theorem join_snoc (x : List UInt8) : ∀ l : List (List UInt8), Lib.join (l ++ [x]) [59, 32] = if l = [] then x else Lib.join l [59, 32] ++ [59, 32] ++ x
  | [] => by simp [Lib.join, List.intercalate]
  | [y] => by simp [Lib.join, List.intercalate, List.intersperse]
  | y :: z :: r => by
    have h := join_snoc x (z :: r)
    rw [if_neg (by simp)] at h
    rw [if_neg (by simp)]
    have e : ∀ (a b : List UInt8) (q : List (List UInt8)), Lib.join (a :: b :: q) [59, 32] = a ++ ([59, 32] ++ Lib.join (b :: q) [59, 32]) := fun a b q => by simp [Lib.join, List.intercalate, List.intersperse]
    have e2 : (y :: z :: r) ++ [x] = y :: z :: (r ++ [x]) := rfl
    rw [e2, e, e]
    have e3 : (z :: r) ++ [x] = z :: (r ++ [x]) := rfl
    rw [e3] at h
    rw [h]
    simp
theorem join_app (l r : List (List UInt8)) : (Lib.join l [59, 32]).length ≤ (Lib.join (l ++ r) [59, 32]).length := by
  induction r generalizing l with
  | nil => simp
  | cons x r ih =>
    have h := ih (l ++ [x])
    rw [List.append_assoc] at h
    refine Nat.le_trans ?_ h
    rw [join_snoc]
    split
    · rename_i h0; rw [h0]; simp [Lib.join, List.intercalate]
    · simp
theorem joinS_snoc (l : List (List UInt8)) (x : List UInt8) : joinS (l ++ [x]) = if l = [] then S x else joinS l ++ S [59, 32] ++ S x := by
  unfold joinS
  rw [join_snoc]
  split
  · rfl
  · apply ByteArray.ext; simp

set_option maxRecDepth 100000 in
set_option maxHeartbeats 2000000 in
theorem joined_any (a : Option Addr) (n c : Nat) (l : List (List UInt8)) (w : World) (hn : l.length = n) (hc : n ≤ c) (hb : n ≤ 1099511627776) (h : TxO w a l) (hj : (joinS l).size ≤ 1099511627776) :
    Calls Tryz.prog 46 #[.slice a n c] w fun e w' => e = .returned (.string (joinS l)) ∧ w' = w := by
  have HJ : Hid (∀ i, (joinS (l.take i)).size ≤ 1099511627776) := fun i => by
    have h1 := join_app (l.take i) (l.drop i)
    rw [List.take_append_drop] at h1
    unfold joinS at hj ⊢
    rw [S_size] at hj ⊢
    omega
  have HN := hide hn
  have HT := hide h
  clear h
  go_enter Tryz.func46, Tryz.ntmps46
  go_wp2
  go_loopw [3, 4] (fun v3 v4 wr => ∃ i : Nat, i ≤ n ∧ v4 = .int .i64 (i : Nat) ∧ v3 = .string (joinS (l.take i)) ∧ w = wr) (fun _ v4 _ => n - (RowKit.intOf v4).toNat)
  case atStart => exact ⟨0, Nat.zero_le _, rfl, rfl, rfl⟩
  case round =>
    obtain ⟨i, hi, rfl, rfl, hw⟩ := hrel
    subst hw
    by_cases hlt : i < n
    · obtain ⟨x, hx⟩ : ∃ x, l[i]? = some x := ⟨_, List.getElem?_eq_getElem (by rw [unhide HN]; exact hlt)⟩
      obtain ⟨g, o, rfl, _, p0⟩ := unhide HT i x hx
      have hst : joinS (l.take (i + 1)) = if i = 0 then S x else joinS (l.take i) ++ S [59, 32] ++ S x := by
        rw [List.take_add_one, hx, Option.toList_some, joinS_snoc]
        by_cases h0 : i = 0
        · subst h0; simp
        · rw [if_neg h0, if_neg (fun h => by have h1 := congrArg List.length h; rw [List.length_take, unhide HN, List.length_nil] at h1; omega)]
      have hs1 := unhide HJ i
      have hs2 := unhide HJ (i + 1)
      rw [hst] at hs2
      have HST := hide hst
      clear hst hx
      have hJ0 : i = 0 → joinS (l.take i) = ByteArray.empty := fun h => by rw [h]; rfl
      generalize joinS (l.take i) = J at *
      by_cases h0 : i = 0
      · subst h0
        have p0' : w.cell? ⟨g, o, none⟩ = some (.string (S x)) := by simpa using p0
        have hJ : J = ByteArray.empty := hJ0 rfl
        subst hJ
        have e2 := S_size x
        rw [if_pos rfl] at hs2
        have hz : ¬ 9223372036854775807 < x.length := by omega
        clear p0 hJ0 hs1 hs2 e2
        go_wp2
        go_roundw
        case rel => exact ⟨1, by omega, by go_num, by rw [unhide HST]; rfl, trivial⟩
        case measure => simp [RowKit.intOf]; omega
      · rw [if_neg h0] at hs2
        rw [ByteArray.size_append, ByteArray.size_append] at hs2
        have d0 : decide (0 < (i : Int)) = true := decide_eq_true (by omega)
        have h0p : 0 < i := by omega
        have e1 : (S [59, 32]).size = 2 := rfl
        have e2 := S_size x
        have hz : ¬ 9223372036854775807 < J.size + 2 + x.length := by omega
        have hz1 : ¬ 9223372036854775807 < J.size + 2 := by omega
        clear hJ0 e1 e2 hs1 hs2
        go_wp2
        go_roundw
        case rel => exact ⟨i + 1, by omega, by go_num, by rw [unhide HST, if_neg h0], trivial⟩
        case measure => simp [RowKit.intOf]; omega
    · obtain rfl : i = n := by omega
      have hall : l.take i = l := List.take_of_length_le (by rw [unhide HN]; exact Nat.le_refl _)
      rw [hall]
      go_wp2
      go_ret
      exact ⟨rfl, rfl⟩

theorem ba_assoc (a b c : ByteArray) : a ++ b ++ c = a ++ (b ++ c) := by apply ByteArray.ext; simp
theorem noteS_nil (h : ByteArray) : noteS h [] = h := by simp [noteS]
theorem noteS_empty (h : ByteArray) (note : List UInt8) (k : note ≠ []) (hs : h.size = 0) : noteS h note = h ++ (S [35, 32] ++ S note) := by
  unfold noteS; rw [if_neg k, if_pos hs]; exact ba_assoc _ _ _
theorem noteS_more (h : ByteArray) (note : List UInt8) (k : note ≠ []) (hs : h.size ≠ 0) : noteS h note = h ++ S [32] ++ (S [35, 32] ++ S note) := by
  unfold noteS; rw [if_neg k, if_neg hs]; exact ba_assoc _ _ _
theorem scan_kind (no : Int) (s : ByteArray) (h : (scanS no s).2 = 0) : (scanS no s).1.kind = 0 ∨ (scanS no s).1.kind = 1 ∨ (scanS no s).1.kind = 2 ∨ (scanS no s).1.kind = 3 := by
  unfold scanS at h ⊢
  by_cases h1 : (chkS s).2 ≠ 0
  · rw [if_pos h1] at h; exact absurd h h1
  · rw [if_neg h1] at h ⊢
    by_cases h2 : hasPrefix (trimB (L s)) [64] = true
    · rw [if_pos h2] at h ⊢
      unfold orderS at h ⊢
      split at h
      · rename_i h3; rw [if_pos h3]; simp
      · simp at h
    · rw [if_neg h2]
      unfold plainS
      (repeat' split) <;> simp

set_option maxRecDepth 100000 in
set_option maxHeartbeats 4000000 in
theorem refWritten_any (d : LineD) (a : Option Addr) (n c : Nat) (w : World) (hn : d.fields.length = n) (hc : n ≤ c) (hb : n ≤ 1099511627776) (h : TxO w a d.fields) (hj : (joinS d.fields).size + d.name.length + d.note.length + 200 ≤ 1073741824) :
    Calls Tryz.prog 26 #[lineV d (.slice a n c)] w fun e w' => (((d.kind = 0 ∨ d.kind = 1 ∨ d.kind = 2 ∨ d.kind = 3) ∧ e = .returned (.tuple #[.string (writtenS d), .bool true])) ∨ (¬ (d.kind = 0 ∨ d.kind = 1 ∨ d.kind = 2 ∨ d.kind = 3) ∧ e = .returned (.tuple #[.string (S []), .bool false]))) ∧ Below w.heap.size w w' := by
  have HJ := hide (fun W (hB : Below w.heap.size w W) => joined_any a n c d.fields W hn hc hb (h.below hB) (by omega))
  obtain ⟨no, kind, name, fields, note⟩ := d
  simp only [lineV] at *
  obtain ⟨W, hW⟩ : ∃ W, w.alloc (.cells #[.int .i64 no, .int .u8 kind, .string (S name), .slice a n c, .string (S note)] 41) = W := ⟨_, rfl⟩
  have hB : Below w.heap.size w W := by rw [← hW]; go_grown
  have gA : W.heap[w.heap.size]? = some (.cells #[.int .i64 no, .int .u8 kind, .string (S name), .slice a n c, .string (S note)] 41) := by rw [← hW]; exact heap_alloc_new w _
  obtain ⟨c0, c1, c2, c3, c4, -, -, -, -, -⟩ := box5 gA
  have HJ2 := hide (unhide HJ W hB)
  clear gA h HJ
  -- the end, of whatever head
  by_cases k : kind = 0 ∨ kind = 1 ∨ kind = 2 ∨ kind = 3
  rotate_left
  · have d0 : (kind == 0) = false := by simp; omega
    have d1 : (kind == 1) = false := by simp; omega
    have d2 : (kind == 2) = false := by simp; omega
    have d3 : (kind == 3) = false := by simp; omega
    have K := hide k
    clear k
    go_enter Tryz.func26, Tryz.ntmps26
    go_wp2_with fail
    go_ret2
    exact ⟨.inr ⟨unhide K, rfl⟩, hB⟩
  · have K := hide k
    have hsn := S_size name
    have hst := S_size note
    rcases k with rfl | rfl | rfl | rfl
    · have HH : Hid (headS ⟨no, 0, name, fields, note⟩ = S []) := by show _ = _; simp [headS]
      have hX : (S []).size = 0 := rfl
      by_cases kn : note = []
      · subst kn
        have HWR : Hid (writtenS ⟨no, 0, name, fields, []⟩ = S []) := (noteS_nil (headS ⟨no, 0, name, fields, []⟩)).trans HH.out
        refine Calls.mono (show Calls Tryz.prog 26 #[.agg #[.int .i64 no, .int .u8 0, .string (S name), .slice a n c, .string (S [])]] w (fun e w' => e = .returned (.tuple #[.string (S []), .bool true]) ∧ Below w.heap.size w w') from ?_) (fun e w' h => ⟨.inl ⟨unhide K, by rw [unhide HWR]; exact h.1⟩, h.2⟩)
        clear HWR HH K
        go_enter Tryz.func26, Tryz.ntmps26
        go_wp2
        go_ret2
        exact ⟨rfl, hB⟩
      · have kk : note.isEmpty = false := by cases note; exact absurd rfl kn; rfl
        have HWR : Hid (writtenS ⟨no, 0, name, fields, note⟩ = S [] ++ (S [35, 32] ++ S note)) := (congrArg (fun x => noteS x note) HH.out).trans (noteS_empty _ note kn hX)
        refine Calls.mono (show Calls Tryz.prog 26 #[.agg #[.int .i64 no, .int .u8 0, .string (S name), .slice a n c, .string (S note)]] w (fun e w' => e = .returned (.tuple #[.string (S [] ++ (S [35, 32] ++ S note)), .bool true]) ∧ Below w.heap.size w w') from ?_) (fun e w' h => ⟨.inl ⟨unhide K, by rw [unhide HWR]; exact h.1⟩, h.2⟩)
        clear HWR HH K
        go_enter Tryz.func26, Tryz.ntmps26
        go_wp2
        go_ret2
        exact ⟨rfl, hB⟩
    · have HH : Hid (headS ⟨no, 1, name, fields, note⟩ = joinS fields) := by show _ = _; simp [headS]
      generalize joinS fields = J at *
      by_cases hX : J.size = 0
      · have kx : J.toList.isEmpty = true := by rw [toList_empty]; exact decide_eq_true hX
        by_cases kn : note = []
        · subst kn
          have HWR : Hid (writtenS ⟨no, 1, name, fields, []⟩ = J) := (noteS_nil (headS ⟨no, 1, name, fields, []⟩)).trans HH.out
          refine Calls.mono (show Calls Tryz.prog 26 #[.agg #[.int .i64 no, .int .u8 1, .string (S name), .slice a n c, .string (S [])]] w (fun e w' => e = .returned (.tuple #[.string (J), .bool true]) ∧ Below w.heap.size w w') from ?_) (fun e w' h => ⟨.inl ⟨unhide K, by rw [unhide HWR]; exact h.1⟩, h.2⟩)
          clear HWR HH K
          go_enter Tryz.func26, Tryz.ntmps26
          go_wp2_with fail
          refine (unhide HJ2).mono ?_
          rintro e w' ⟨rfl, rfl⟩
          go_wp2
          go_ret2
          exact ⟨rfl, hB⟩
        · have kk : note.isEmpty = false := by cases note; exact absurd rfl kn; rfl
          have HWR : Hid (writtenS ⟨no, 1, name, fields, note⟩ = J ++ (S [35, 32] ++ S note)) := (congrArg (fun x => noteS x note) HH.out).trans (noteS_empty _ note kn hX)
          refine Calls.mono (show Calls Tryz.prog 26 #[.agg #[.int .i64 no, .int .u8 1, .string (S name), .slice a n c, .string (S note)]] w (fun e w' => e = .returned (.tuple #[.string (J ++ (S [35, 32] ++ S note)), .bool true]) ∧ Below w.heap.size w w') from ?_) (fun e w' h => ⟨.inl ⟨unhide K, by rw [unhide HWR]; exact h.1⟩, h.2⟩)
          clear HWR HH K
          go_enter Tryz.func26, Tryz.ntmps26
          go_wp2_with fail
          refine (unhide HJ2).mono ?_
          rintro e w' ⟨rfl, rfl⟩
          go_wp2
          go_ret2
          exact ⟨rfl, hB⟩
      · have kx : J.toList.isEmpty = false := by rw [toList_empty]; exact decide_eq_false hX
        by_cases kn : note = []
        · subst kn
          have HWR : Hid (writtenS ⟨no, 1, name, fields, []⟩ = J) := (noteS_nil (headS ⟨no, 1, name, fields, []⟩)).trans HH.out
          refine Calls.mono (show Calls Tryz.prog 26 #[.agg #[.int .i64 no, .int .u8 1, .string (S name), .slice a n c, .string (S [])]] w (fun e w' => e = .returned (.tuple #[.string (J), .bool true]) ∧ Below w.heap.size w w') from ?_) (fun e w' h => ⟨.inl ⟨unhide K, by rw [unhide HWR]; exact h.1⟩, h.2⟩)
          clear HWR HH K
          go_enter Tryz.func26, Tryz.ntmps26
          go_wp2_with fail
          refine (unhide HJ2).mono ?_
          rintro e w' ⟨rfl, rfl⟩
          go_wp2
          go_ret2
          exact ⟨rfl, hB⟩
        · have kk : note.isEmpty = false := by cases note; exact absurd rfl kn; rfl
          have HWR : Hid (writtenS ⟨no, 1, name, fields, note⟩ = J ++ S [32] ++ (S [35, 32] ++ S note)) := (congrArg (fun x => noteS x note) HH.out).trans (noteS_more _ note kn hX)
          refine Calls.mono (show Calls Tryz.prog 26 #[.agg #[.int .i64 no, .int .u8 1, .string (S name), .slice a n c, .string (S note)]] w (fun e w' => e = .returned (.tuple #[.string (J ++ S [32] ++ (S [35, 32] ++ S note)), .bool true]) ∧ Below w.heap.size w w') from ?_) (fun e w' h => ⟨.inl ⟨unhide K, by rw [unhide HWR]; exact h.1⟩, h.2⟩)
          clear HWR HH K
          go_enter Tryz.func26, Tryz.ntmps26
          go_wp2_with fail
          refine (unhide HJ2).mono ?_
          rintro e w' ⟨rfl, rfl⟩
          go_wp2
          go_ret2
          exact ⟨rfl, hB⟩
    · have hH : (S [64] ++ S name ++ S [58]).size ≠ 0 := by rw [ByteArray.size_append, ByteArray.size_append]; have : (S [64]).size = 1 := rfl; omega
      by_cases h0 : n = 0
      · have HH : Hid (headS ⟨no, 2, name, fields, note⟩ = S [64] ++ S name ++ S [58]) := by show _ = _; simp [headS, withF, hn, h0]
        have hX := hH
        have kx : (S [64] ++ S name ++ S [58]).toList.isEmpty = false := by rw [toList_empty]; exact decide_eq_false hX
        have hnp : decide (0 < (n : Int)) = false := decide_eq_false (by omega)
        have hnp' : ¬ 0 < n := by omega
        clear h0
        by_cases kn : note = []
        · subst kn
          have HWR : Hid (writtenS ⟨no, 2, name, fields, []⟩ = S [64] ++ S name ++ S [58]) := (noteS_nil (headS ⟨no, 2, name, fields, []⟩)).trans HH.out
          refine Calls.mono (show Calls Tryz.prog 26 #[.agg #[.int .i64 no, .int .u8 2, .string (S name), .slice a n c, .string (S [])]] w (fun e w' => e = .returned (.tuple #[.string (S [64] ++ S name ++ S [58]), .bool true]) ∧ Below w.heap.size w w') from ?_) (fun e w' h => ⟨.inl ⟨unhide K, by rw [unhide HWR]; exact h.1⟩, h.2⟩)
          clear HWR HH K
          go_enter Tryz.func26, Tryz.ntmps26
          go_wp2
          go_ret2
          exact ⟨rfl, hB⟩
        · have kk : note.isEmpty = false := by cases note; exact absurd rfl kn; rfl
          have HWR : Hid (writtenS ⟨no, 2, name, fields, note⟩ = S [64] ++ S name ++ S [58] ++ S [32] ++ (S [35, 32] ++ S note)) := (congrArg (fun x => noteS x note) HH.out).trans (noteS_more _ note kn hX)
          refine Calls.mono (show Calls Tryz.prog 26 #[.agg #[.int .i64 no, .int .u8 2, .string (S name), .slice a n c, .string (S note)]] w (fun e w' => e = .returned (.tuple #[.string (S [64] ++ S name ++ S [58] ++ S [32] ++ (S [35, 32] ++ S note)), .bool true]) ∧ Below w.heap.size w w') from ?_) (fun e w' h => ⟨.inl ⟨unhide K, by rw [unhide HWR]; exact h.1⟩, h.2⟩)
          clear HWR HH K
          go_enter Tryz.func26, Tryz.ntmps26
          go_wp2
          go_ret2
          exact ⟨rfl, hB⟩
      · have HH : Hid (headS ⟨no, 2, name, fields, note⟩ = S [64] ++ S name ++ S [58] ++ (S [32] ++ joinS fields)) := by show _ = _; simp only [headS, withF, hn, h0, if_false, reduceIte, Int.reduceEq]; exact ba_assoc _ _ _
        generalize joinS fields = J at *
        have hnp : decide (0 < (n : Int)) = true := decide_eq_true (by omega)
        have hnp' : 0 < n := by omega
        have hX : (S [64] ++ S name ++ S [58] ++ (S [32] ++ J)).size ≠ 0 := by rw [ByteArray.size_append]; omega
        have kx : (S [64] ++ S name ++ S [58] ++ (S [32] ++ J)).toList.isEmpty = false := by rw [toList_empty]; exact decide_eq_false hX
        by_cases kn : note = []
        · subst kn
          have HWR : Hid (writtenS ⟨no, 2, name, fields, []⟩ = S [64] ++ S name ++ S [58] ++ (S [32] ++ J)) := (noteS_nil (headS ⟨no, 2, name, fields, []⟩)).trans HH.out
          refine Calls.mono (show Calls Tryz.prog 26 #[.agg #[.int .i64 no, .int .u8 2, .string (S name), .slice a n c, .string (S [])]] w (fun e w' => e = .returned (.tuple #[.string (S [64] ++ S name ++ S [58] ++ (S [32] ++ J)), .bool true]) ∧ Below w.heap.size w w') from ?_) (fun e w' h => ⟨.inl ⟨unhide K, by rw [unhide HWR]; exact h.1⟩, h.2⟩)
          clear HWR HH K
          go_enter Tryz.func26, Tryz.ntmps26
          go_wp2_with fail
          refine (unhide HJ2).mono ?_
          rintro e w' ⟨rfl, rfl⟩
          go_wp2
          go_ret2
          exact ⟨rfl, hB⟩
        · have kk : note.isEmpty = false := by cases note; exact absurd rfl kn; rfl
          have HWR : Hid (writtenS ⟨no, 2, name, fields, note⟩ = S [64] ++ S name ++ S [58] ++ (S [32] ++ J) ++ S [32] ++ (S [35, 32] ++ S note)) := (congrArg (fun x => noteS x note) HH.out).trans (noteS_more _ note kn hX)
          refine Calls.mono (show Calls Tryz.prog 26 #[.agg #[.int .i64 no, .int .u8 2, .string (S name), .slice a n c, .string (S note)]] w (fun e w' => e = .returned (.tuple #[.string (S [64] ++ S name ++ S [58] ++ (S [32] ++ J) ++ S [32] ++ (S [35, 32] ++ S note)), .bool true]) ∧ Below w.heap.size w w') from ?_) (fun e w' h => ⟨.inl ⟨unhide K, by rw [unhide HWR]; exact h.1⟩, h.2⟩)
          clear HWR HH K
          go_enter Tryz.func26, Tryz.ntmps26
          go_wp2_with fail
          refine (unhide HJ2).mono ?_
          rintro e w' ⟨rfl, rfl⟩
          go_wp2
          go_ret2
          exact ⟨rfl, hB⟩
    · have hH : (S [35, 32, 64, 109, 105, 115, 115, 105, 110, 103, 58]).size ≠ 0 := by decide
      by_cases h0 : n = 0
      · have HH : Hid (headS ⟨no, 3, name, fields, note⟩ = S [35, 32, 64, 109, 105, 115, 115, 105, 110, 103, 58]) := by show _ = _; simp [headS, withF, hn, h0]
        have hX := hH
        have kx : (S [35, 32, 64, 109, 105, 115, 115, 105, 110, 103, 58]).toList.isEmpty = false := by rw [toList_empty]; exact decide_eq_false hX
        have hnp : decide (0 < (n : Int)) = false := decide_eq_false (by omega)
        have hnp' : ¬ 0 < n := by omega
        clear h0
        by_cases kn : note = []
        · subst kn
          have HWR : Hid (writtenS ⟨no, 3, name, fields, []⟩ = S [35, 32, 64, 109, 105, 115, 115, 105, 110, 103, 58]) := (noteS_nil (headS ⟨no, 3, name, fields, []⟩)).trans HH.out
          refine Calls.mono (show Calls Tryz.prog 26 #[.agg #[.int .i64 no, .int .u8 3, .string (S name), .slice a n c, .string (S [])]] w (fun e w' => e = .returned (.tuple #[.string (S [35, 32, 64, 109, 105, 115, 115, 105, 110, 103, 58]), .bool true]) ∧ Below w.heap.size w w') from ?_) (fun e w' h => ⟨.inl ⟨unhide K, by rw [unhide HWR]; exact h.1⟩, h.2⟩)
          clear HWR HH K
          go_enter Tryz.func26, Tryz.ntmps26
          go_wp2
          go_ret2
          exact ⟨rfl, hB⟩
        · have kk : note.isEmpty = false := by cases note; exact absurd rfl kn; rfl
          have HWR : Hid (writtenS ⟨no, 3, name, fields, note⟩ = S [35, 32, 64, 109, 105, 115, 115, 105, 110, 103, 58] ++ S [32] ++ (S [35, 32] ++ S note)) := (congrArg (fun x => noteS x note) HH.out).trans (noteS_more _ note kn hX)
          refine Calls.mono (show Calls Tryz.prog 26 #[.agg #[.int .i64 no, .int .u8 3, .string (S name), .slice a n c, .string (S note)]] w (fun e w' => e = .returned (.tuple #[.string (S [35, 32, 64, 109, 105, 115, 115, 105, 110, 103, 58] ++ S [32] ++ (S [35, 32] ++ S note)), .bool true]) ∧ Below w.heap.size w w') from ?_) (fun e w' h => ⟨.inl ⟨unhide K, by rw [unhide HWR]; exact h.1⟩, h.2⟩)
          clear HWR HH K
          go_enter Tryz.func26, Tryz.ntmps26
          go_wp2
          go_ret2
          exact ⟨rfl, hB⟩
      · have HH : Hid (headS ⟨no, 3, name, fields, note⟩ = S [35, 32, 64, 109, 105, 115, 115, 105, 110, 103, 58] ++ (S [32] ++ joinS fields)) := by show _ = _; simp only [headS, withF, hn, h0, if_false, reduceIte, Int.reduceEq]; exact ba_assoc _ _ _
        generalize joinS fields = J at *
        have hnp : decide (0 < (n : Int)) = true := decide_eq_true (by omega)
        have hnp' : 0 < n := by omega
        have hX : (S [35, 32, 64, 109, 105, 115, 115, 105, 110, 103, 58] ++ (S [32] ++ J)).size ≠ 0 := by rw [ByteArray.size_append]; omega
        have kx : (S [35, 32, 64, 109, 105, 115, 115, 105, 110, 103, 58] ++ (S [32] ++ J)).toList.isEmpty = false := by rw [toList_empty]; exact decide_eq_false hX
        by_cases kn : note = []
        · subst kn
          have HWR : Hid (writtenS ⟨no, 3, name, fields, []⟩ = S [35, 32, 64, 109, 105, 115, 115, 105, 110, 103, 58] ++ (S [32] ++ J)) := (noteS_nil (headS ⟨no, 3, name, fields, []⟩)).trans HH.out
          refine Calls.mono (show Calls Tryz.prog 26 #[.agg #[.int .i64 no, .int .u8 3, .string (S name), .slice a n c, .string (S [])]] w (fun e w' => e = .returned (.tuple #[.string (S [35, 32, 64, 109, 105, 115, 115, 105, 110, 103, 58] ++ (S [32] ++ J)), .bool true]) ∧ Below w.heap.size w w') from ?_) (fun e w' h => ⟨.inl ⟨unhide K, by rw [unhide HWR]; exact h.1⟩, h.2⟩)
          clear HWR HH K
          go_enter Tryz.func26, Tryz.ntmps26
          go_wp2_with fail
          refine (unhide HJ2).mono ?_
          rintro e w' ⟨rfl, rfl⟩
          go_wp2
          go_ret2
          exact ⟨rfl, hB⟩
        · have kk : note.isEmpty = false := by cases note; exact absurd rfl kn; rfl
          have HWR : Hid (writtenS ⟨no, 3, name, fields, note⟩ = S [35, 32, 64, 109, 105, 115, 115, 105, 110, 103, 58] ++ (S [32] ++ J) ++ S [32] ++ (S [35, 32] ++ S note)) := (congrArg (fun x => noteS x note) HH.out).trans (noteS_more _ note kn hX)
          refine Calls.mono (show Calls Tryz.prog 26 #[.agg #[.int .i64 no, .int .u8 3, .string (S name), .slice a n c, .string (S note)]] w (fun e w' => e = .returned (.tuple #[.string (S [35, 32, 64, 109, 105, 115, 115, 105, 110, 103, 58] ++ (S [32] ++ J) ++ S [32] ++ (S [35, 32] ++ S note)), .bool true]) ∧ Below w.heap.size w w') from ?_) (fun e w' h => ⟨.inl ⟨unhide K, by rw [unhide HWR]; exact h.1⟩, h.2⟩)
          clear HWR HH K
          go_enter Tryz.func26, Tryz.ntmps26
          go_wp2_with fail
          refine (unhide HJ2).mono ?_
          rintro e w' ⟨rfl, rfl⟩
          go_wp2
          go_ret2
          exact ⟨rfl, hB⟩

set_option maxRecDepth 100000 in
set_option maxHeartbeats 4000000 in
theorem refPrint_any (d : LineD) (a : Option Addr) (n c : Nat) (w : World) (hn : d.fields.length = n) (hc : n ≤ c) (hb : n ≤ 1099511627776) (h : TxO w a d.fields) (hj : (joinS d.fields).size + d.name.length + d.note.length + 200 ≤ 1073741824) :
    Calls Tryz.prog 14 #[lineV d (.slice a n c)] w fun e w' => ∃ X code, e = .returned (.tuple #[.string X, .int .i64 code]) ∧ Below w.heap.size w w' ∧
      ((code = 0 ∧ X = writtenS d ∧ scanS d.no (writtenS d) = (d, 0)) ∨ (code = 34 ∧ X = S [] ∧ scanS d.no (writtenS d) ≠ (d, 0))) := by
  have HW := hide (fun W (hB : Below w.heap.size w W) => refWritten_any d a n c W hn hc hb (h.below hB) hj)
  have hws : (writtenS d).size ≤ 1073741824 := by
    have h1 := headS_size d
    unfold writtenS noteS
    have e1 : (S [32]).size = 1 := rfl
    have e2 : (S [35, 32]).size = 2 := rfl
    have e3 := S_size d.note
    (repeat' split) <;> (try simp only [ByteArray.size_append]) <;> omega
  have HSC := hide (fun W => refScan_any d.no (writtenS d) W (by omega))
  have hsl := scan_len d.no (writtenS d)
  have hsk := scan_kind d.no (writtenS d)
  obtain ⟨D, C, hDC⟩ : ∃ D C, scanS d.no (writtenS d) = (D, C) := ⟨_, _, rfl⟩
  rw [hDC] at HSC hsl hsk
  dsimp only at HSC hsl hsk
  rw [hDC]
  generalize writtenS d = X at *
  have HNO : Hid (¬ (d.kind = 0 ∨ d.kind = 1 ∨ d.kind = 2 ∨ d.kind = 3) → ((D, C) : LineD × Int) ≠ (d, 0)) := fun hk e => by
    obtain ⟨rfl, rfl⟩ : D = d ∧ C = 0 := ⟨congrArg Prod.fst e, congrArg Prod.snd e⟩
    exact hk (hsk rfl)
  have HIS := hide (fun W (hB : Below w.heap.size w W) (b : Option Addr) (cb : Nat) (hx : TxO W b D.fields) => refSame_any D d b a D.fields.length n cb c W rfl hn (by omega) hb hx (h.below hB))
  clear hsk
  obtain ⟨no, kind, name, fields, note⟩ := d
  simp only [lineV] at *
  obtain ⟨W, hW⟩ : ∃ W, w.alloc (.cells #[.int .i64 no, .int .u8 kind, .string (S name), .slice a n c, .string (S note)] 41) = W := ⟨_, rfl⟩
  have hB : Below w.heap.size w W := by rw [← hW]; go_grown
  have gA : W.heap[w.heap.size]? = some (.cells #[.int .i64 no, .int .u8 kind, .string (S name), .slice a n c, .string (S note)] 41) := by rw [← hW]; exact heap_alloc_new w _
  have hlt : w.heap.size < W.heap.size := by rw [← hW]; simp
  obtain ⟨c0, c1, c2, c3, c4, -, -, -, -, -⟩ := box5 gA
  have HGA := hide gA
  clear gA h hDC
  go_enter Tryz.func14, Tryz.ntmps14
  go_wp2_with fail
  refine (unhide HW W hB).mono ?_
  rintro e w2 ⟨hor, hb2⟩
  have gA := (hb2.block w.heap.size hlt).trans (unhide HGA)
  obtain ⟨e0, e1, e2, e3, e4, -, -, -, -, -⟩ := box5 gA
  have hB2 : Below w.heap.size w w2 := hB.trans (hb2.mono hB.size)
  have hlt2 : w.heap.size < w2.heap.size := Nat.lt_of_lt_of_le hlt hb2.size
  have HGA2 := hide gA
  clear gA c0 c1 c2 c3 c4 HW hb2
  rcases hor with ⟨hkn, rfl⟩ | ⟨hkn, rfl⟩
  rotate_left
  · have HNO2 := hide (HNO.out hkn)
    clear HNO hkn
    go_wp2
    go_ret2
    exact ⟨_, _, rfl, hB2, .inr ⟨rfl, rfl, unhide HNO2⟩⟩
  clear HNO hkn
  go_wp2_with fail
  refine (unhide HSC _).mono ?_
  rintro e w3 ⟨fv, rfl, hfr, hb3⟩
  have hB3 : Below w.heap.size w w3 := hB2.trans (hb3.mono hB2.size)
  by_cases hC : C = 0
  · subst hC
    obtain ⟨fa, fc, rfl, htx⟩ := texts_row hfr
    obtain ⟨W4, hW4⟩ : ∃ W4, w3.alloc (.cells #[.int .i64 D.no, .int .u8 D.kind, .string (S D.name), .slice fa D.fields.length fc, .string (S D.note)] 41) = W4 := ⟨_, rfl⟩
    have bel4 : Below w3.heap.size w3 W4 := by rw [← hW4]; go_grown
    have g4 : W4.heap[w3.heap.size]? = some (.cells #[.int .i64 D.no, .int .u8 D.kind, .string (S D.name), .slice fa D.fields.length fc, .string (S D.note)] 41) := by rw [← hW4]; exact heap_alloc_new w3 _
    have g1 : W4.heap[w.heap.size]? = _ := (bel4.block w.heap.size (Nat.lt_of_lt_of_le hlt2 hb3.size)).trans ((hb3.block w.heap.size hlt2).trans (unhide HGA2))
    have hB4 : Below w.heap.size w W4 := hB3.trans (bel4.mono hB3.size)
    obtain ⟨p0, p1, p2, p3, p4, -, -, -, -, -⟩ := box5 g4
    obtain ⟨q0, q1, q2, q3, q4, -, -, -, -, -⟩ := box5 g1
    have HIS2 := hide (unhide HIS W4 hB4 fa fc ((TxO.of htx).below bel4))
    clear e0 e1 e2 e3 e4 g1 g4 bel4 hfr htx HIS HGA2 HGA HSC hb3 hB3 hB2
    go_wp2_with fail
    refine (unhide HIS2).mono ?_
    rintro e w5 ⟨t, rfl, ht, hb5⟩
    have hB5 : Below w.heap.size w w5 := hB4.trans (hb5.mono hB4.size)
    cases t with
    | true =>
      have hD : D = _ := ht.1 rfl
      go_wp2
      go_ret2
      exact ⟨_, _, rfl, hB5, .inl ⟨rfl, rfl, by rw [hD]⟩⟩
    | false =>
      have hD : ¬ D = _ := fun h => by have := ht.2 h; cases this
      go_wp2
      go_ret2
      exact ⟨_, _, rfl, hB5, .inr ⟨rfl, rfl, fun h => hD (congrArg Prod.fst h)⟩⟩
  · have dC : (C != 0) = true := by simpa using hC
    obtain ⟨fa, fc, rfl⟩ := row_slice2 hfr
    go_wp2
    go_ret2
    exact ⟨_, _, rfl, hB3.alloc hB3.size _, .inr ⟨rfl, rfl, fun h => hC (congrArg Prod.snd h)⟩⟩
end Go.Proofs.YtlaennakglhmjaaGreatDoor

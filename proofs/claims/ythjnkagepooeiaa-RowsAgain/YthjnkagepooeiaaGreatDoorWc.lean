/-
  These texts, one behind the other: WoE, WoF, WoG, WoR, WoR2, WoR3.
-/
import Derived.Test.YthjnkagepooeiaaGreatDoorWb
import Derived.Test.YthjnkagepooeiaaGreatDoorSq
import Derived.Test.YthjnkagepooeiaaGreatDoorUb
import Derived.Test.YthjnkagepooeiaaGreatDoorRf
/-
  Each of package words: an iterator that tells the words of a text, whatever the loop's body does with them.
-/
namespace Go.Proofs.YthjnkagepooeiaaGreatDoor
open Go.RowKit Go.PlainAid Go.Lib Go.Shelf Go.Seq2 Go.Seq3
attribute [local go_sem] World.iter
attribute [local go_sem] Oper.semAt_some
set_option linter.unusedVariables false

abbrev wordVals (s : ByteArray) (x : Nat × Nat) : Array Value := #[.int .i64 (x.1 : Nat), .string (s.extract x.1 x.2)]
abbrev strT (t : TypeId) : Prop := t = 9

theorem wordsG_end (s : ByteArray) (pos f : Nat) (b : Bool) (h : ¬ pos < s.size) : wordsG s (chars s pos) f b = if b then [(f, s.size)] else [] := by
  rw [chars_end s pos h]; cases b <;> rfl
theorem wordsG_step (s : ByteArray) (pos f : Nat) (b : Bool) (h : pos < s.size) : wordsG s (chars s pos) f b =
    if blankB (((Utf8.decode s pos).1 : Nat) : Int) then (if b then (f, pos) :: wordsG s (chars s (pos + (Utf8.decode s pos).2)) f false else wordsG s (chars s (pos + (Utf8.decode s pos).2)) f false)
    else (if b then wordsG s (chars s (pos + (Utf8.decode s pos).2)) f true else wordsG s (chars s (pos + (Utf8.decode s pos).2)) pos true) := by
  rw [chars_step s pos h]
  cases b <;> rw [wordsG] <;> simp

end Go.Proofs.YthjnkagepooeiaaGreatDoor
/-
  Classes of package words: the classes that the words of every text name, or the place of the first word that names none.
-/
namespace Go.Proofs.YthjnkagepooeiaaGreatDoor
open Go.RowKit Go.PlainAid Go.Lib Go.Shelf Go.Seq2 Go.Seq3
attribute [local go_sem] Oper.semAt_some
set_option linter.unusedVariables false

theorem infoClass : (Tryz.prog.info? 27).map (fun i => (i.zero, i.size, i.bytes)) = some (some (.int .u8 0), 1, 1) := by kernel_rfl
/-- the class that a word names -/
def wcls (s : ByteArray) (x : Nat × Nat) : Int := classN (looseB (s.extract x.1 x.2))
def badW (s : ByteArray) : Option (Nat × Nat) := (wordsL s).find? fun x => wcls s x == 0
def clsL (s : ByteArray) : List Int := match badW s with | some _ => [] | none => (wordsL s).map (wcls s)
def clsW (s : ByteArray) : Nat := match badW s with | some x => x.1 | none => 0
def clsE (s : ByteArray) : Int := match badW s with | some _ => 50 | none => 0
theorem bad_none (s : ByteArray) (h : ∀ x ∈ wordsL s, wcls s x ≠ 0) : badW s = none := by
  unfold badW; rw [List.find?_eq_none]; intro x hx; simpa using h x hx
theorem bad_some (s : ByteArray) (qs r : List (Nat × Nat)) (x : Nat × Nat) (h : qs ++ [x] ++ r = wordsL s) (hq : ∀ y ∈ qs, wcls s y ≠ 0) (hx : wcls s x = 0) : badW s = some x := by
  unfold badW
  rw [← h, List.append_assoc, List.find?_append, List.find?_eq_none.2 (fun y hy => by simpa using hq y hy)]
  simp [hx]
theorem wordsG_len (s : ByteArray) : ∀ (l : List (Nat × Nat)) (f : Nat), (wordsG s l f false).length ≤ l.length ∧ (wordsG s l f true).length ≤ l.length + 1 := by
  intro l
  induction l with
  | nil => intro f; exact ⟨by simp [wordsG], by simp [wordsG]⟩
  | cons x l ih =>
    intro f
    obtain ⟨p, r⟩ := x
    have h1 := ih f
    have h2 := ih p
    constructor
    · rw [wordsG]
      split
      · simp only [List.length_cons]; omega
      · simp only [List.length_cons]; omega
    · rw [wordsG]
      split
      · simp only [List.length_cons]; omega
      · simp only [List.length_cons]; omega
theorem words_len (s : ByteArray) : (wordsL s).length ≤ s.size := by
  have h1 := (wordsG_len s (chars s 0) 0).1
  have h2 := chars_length s 0
  unfold wordsL; omega
abbrev clsVs (s : ByteArray) (l : List (Nat × Nat)) : List Value := (l.map (wcls s)).map (Value.int .u8)
theorem clsVs_snoc (s : ByteArray) (l : List (Nat × Nat)) (x : Nat × Nat) : clsVs s (l ++ [x]) = clsVs s l ++ [.int .u8 (wcls s x)] := by simp [clsVs]
theorem row_grownC {A B : World} {row : Option Nat} {base : Nat} {e : TypeId} {size : Nat} {v : Value} {n : Nat} {xs : List Value} (h : A.ownsRow base e size v n xs) (hg : A.grownBy B row) (hr : ∀ r, row = some r → ∃ o : Obj, A.heap[r]? = some o ∧ o.isCells = false) : B.ownsRow base e size v n xs := by
  refine ⟨h.1, ?_⟩
  rcases h.2 with h | ⟨g, cap, cur, h1, h2, h3, h4⟩
  · exact .inl h
  · exact .inr ⟨g, cap, cur, h1, h2, (grownBy_keeps_cells hg hr h3 rfl).trans h3, h4⟩
theorem keeps_belowC {V W : World} (h : Below V.heap.size V W) : KeepsOthers V W := ⟨h.size, fun k o hk _ => (h.block k (Array.getElem?_eq_some_iff.1 hk).1).trans hk⟩
theorem boxed_belowC {V W : World} {b : Nat} {t : TypeId} {v : Value} (h : Boxed V b t v) (hb : Below V.heap.size V W) : Boxed W b t v := (hb.block b h.lt).trans h
theorem row_sliceC {V : World} {base : Nat} {e : TypeId} {size : Nat} {v : Value} {n : Nat} {xs : List Value} (h : V.ownsRow base e size v n xs) : ∃ a c, v = .slice a n c := by
  rcases h.2 with ⟨rfl, h0⟩ | ⟨g, cap, cur, rfl, _⟩
  · exact ⟨none, 0, by rw [h0]⟩
  · exact ⟨_, _, rfl⟩
theorem row_belowC {w w' : World} {base : Nat} {e : TypeId} {size : Nat} {v : Value} {n : Nat} {xs : List Value} (h : w.ownsRow base e size v n xs) (hb : Below w.heap.size w w') : w'.ownsRow base e size v n xs := by
  refine ⟨h.1, ?_⟩
  rcases h.2 with h | ⟨g, cap, cur, h1, h2, h3, h4⟩
  · exact .inl h
  · exact .inr ⟨g, cap, cur, h1, h2, (hb.block g (Array.getElem?_eq_some_iff.1 h3).1).trans h3, h4⟩

theorem wordsG_mem (s : ByteArray) : ∀ (k pos f : Nat) (b : Bool), s.size - pos ≤ k → f ≤ pos → pos ≤ s.size → (b = true → f < pos) → ∀ x ∈ wordsG s (chars s pos) f b, x.1 < x.2 ∧ x.2 ≤ s.size ∧ f ≤ x.1 := by
  intro k
  induction k with
  | zero =>
    intro pos f b hk hf hp hb x hx
    rw [wordsG_end s pos f b (by omega)] at hx
    cases b with
    | true => obtain rfl : x = (f, s.size) := by simpa using hx
              have := hb rfl
              exact ⟨by show f < s.size; omega, Nat.le_refl _, Nat.le_refl _⟩
    | false => simp at hx
  | succ k ih =>
    intro pos f b hk hf hp hb x hx
    by_cases hlt : pos < s.size
    · have hd := dec_bounds s pos hlt
      rw [wordsG_step s pos f b hlt] at hx
      have i1 := ih (pos + (Utf8.decode s pos).2) f false (by omega) (by omega) (by omega) (fun h => by cases h) x
      have i2 := ih (pos + (Utf8.decode s pos).2) f true (by omega) (by omega) (by omega) (fun h => by omega) x
      have i3 := ih (pos + (Utf8.decode s pos).2) pos true (by omega) (by omega) (by omega) (fun h => by omega) x
      split at hx
      · split at hx
        · rcases List.mem_cons.1 hx with rfl | hx
          · rename_i hbt
            have := hb hbt
            exact ⟨this, by show pos ≤ s.size; omega, Nat.le_refl _⟩
          · exact i1 hx
        · exact i1 hx
      · split at hx
        · exact i2 hx
        · have := i3 hx
          exact ⟨this.1, this.2.1, by omega⟩
    · rw [wordsG_end s pos f b hlt] at hx
      cases b with
      | true => obtain rfl : x = (f, s.size) := by simpa using hx
                have := hb rfl
                exact ⟨by show f < s.size; omega, Nat.le_refl _, Nat.le_refl _⟩
      | false => simp at hx
theorem words_mem (s : ByteArray) (x : Nat × Nat) (hx : x ∈ wordsL s) : x.1 < x.2 ∧ x.2 ≤ s.size := by
  have := wordsG_mem s s.size 0 0 false (by omega) (by omega) (by omega) (fun h => by cases h) x hx
  exact ⟨this.1, this.2.1⟩

end Go.Proofs.YthjnkagepooeiaaGreatDoor
/-
  What every program tells of a few names: the law's function awake answers true.
-/
namespace Go.Proofs.YthjnkagepooeiaaGreatDoor
open Go.RowKit Go.PlainAid Go.Lib
set_option linter.unusedVariables false

abbrev awA : ByteArray := ⟨#[114, 105, 103, 104, 116, 32, 116, 111, 45, 76, 69, 70, 84]⟩
abbrev awB : ByteArray := ⟨#[114, 105, 103, 104, 116]⟩
abbrev awC : ByteArray := ⟨#[65, 76, 227, 128, 128, 119, 104, 105, 116, 101, 95, 115, 112, 97, 99, 101]⟩
abbrev awD : ByteArray := ⟨#[32, 67, 108, 111, 115, 101]⟩
abbrev awE : ByteArray := ⟨#[255, 65, 95]⟩
theorem awA1 : classN (looseB awA) = 2 := by decide +kernel
theorem awB1 : classN (looseB awB) = 0 := by decide +kernel
theorem awC1 : clsL awC = [3, 13] ∧ clsW awC = 0 ∧ clsE awC = 0 := by decide +kernel
theorem awD1 : sideN (looseB awD) = 2 ∧ sideE (looseB awD) = 0 := by decide +kernel
theorem awE1 : looseB awE = ⟨#[239, 191, 189, 97]⟩ := by decide +kernel
theorem bl1 : blankB 12288 = true := by decide
theorem bl2 : blankB 97 = false := by decide
theorem blank_in (r : Int) (b : Bool) (h : blankB r = b) (w : World) : Calls Tryz.prog 193 #[.int .i32 r] w fun e w' => e = .returned (.bool b) ∧ w' = w := by subst h; exact blank_any r w

end Go.Proofs.YthjnkagepooeiaaGreatDoor
/-
  The document's answer for layer 5: Short, Long, Letter.
-/
namespace Go.Proofs.YthjnkagepooeiaaGreatDoor
open Go.RowKit Go.PlainAid Go.Lib
set_option linter.unusedVariables false

abbrev shortVs : List Value := [.string ⟨#[]⟩, .string ⟨#[76]⟩, .string ⟨#[82]⟩, .string ⟨#[65, 76]⟩, .string ⟨#[69, 78]⟩, .string ⟨#[69, 83]⟩, .string ⟨#[69, 84]⟩, .string ⟨#[65, 78]⟩, .string ⟨#[67, 83]⟩, .string ⟨#[78, 83, 77]⟩, .string ⟨#[66, 78]⟩, .string ⟨#[66]⟩, .string ⟨#[83]⟩, .string ⟨#[87, 83]⟩, .string ⟨#[79, 78]⟩, .string ⟨#[76, 82, 69]⟩, .string ⟨#[76, 82, 79]⟩, .string ⟨#[82, 76, 69]⟩, .string ⟨#[82, 76, 79]⟩, .string ⟨#[80, 68, 70]⟩, .string ⟨#[76, 82, 73]⟩, .string ⟨#[82, 76, 73]⟩, .string ⟨#[70, 83, 73]⟩, .string ⟨#[80, 68, 73]⟩]
abbrev longVs : List Value := [.string ⟨#[]⟩, .string ⟨#[76, 101, 102, 116, 95, 84, 111, 95, 82, 105, 103, 104, 116]⟩, .string ⟨#[82, 105, 103, 104, 116, 95, 84, 111, 95, 76, 101, 102, 116]⟩, .string ⟨#[65, 114, 97, 98, 105, 99, 95, 76, 101, 116, 116, 101, 114]⟩, .string ⟨#[69, 117, 114, 111, 112, 101, 97, 110, 95, 78, 117, 109, 98, 101, 114]⟩, .string ⟨#[69, 117, 114, 111, 112, 101, 97, 110, 95, 83, 101, 112, 97, 114, 97, 116, 111, 114]⟩, .string ⟨#[69, 117, 114, 111, 112, 101, 97, 110, 95, 84, 101, 114, 109, 105, 110, 97, 116, 111, 114]⟩, .string ⟨#[65, 114, 97, 98, 105, 99, 95, 78, 117, 109, 98, 101, 114]⟩, .string ⟨#[67, 111, 109, 109, 111, 110, 95, 83, 101, 112, 97, 114, 97, 116, 111, 114]⟩, .string ⟨#[78, 111, 110, 115, 112, 97, 99, 105, 110, 103, 95, 77, 97, 114, 107]⟩, .string ⟨#[66, 111, 117, 110, 100, 97, 114, 121, 95, 78, 101, 117, 116, 114, 97, 108]⟩, .string ⟨#[80, 97, 114, 97, 103, 114, 97, 112, 104, 95, 83, 101, 112, 97, 114, 97, 116, 111, 114]⟩, .string ⟨#[83, 101, 103, 109, 101, 110, 116, 95, 83, 101, 112, 97, 114, 97, 116, 111, 114]⟩, .string ⟨#[87, 104, 105, 116, 101, 95, 83, 112, 97, 99, 101]⟩, .string ⟨#[79, 116, 104, 101, 114, 95, 78, 101, 117, 116, 114, 97, 108]⟩, .string ⟨#[76, 101, 102, 116, 95, 84, 111, 95, 82, 105, 103, 104, 116, 95, 69, 109, 98, 101, 100, 100, 105, 110, 103]⟩, .string ⟨#[76, 101, 102, 116, 95, 84, 111, 95, 82, 105, 103, 104, 116, 95, 79, 118, 101, 114, 114, 105, 100, 101]⟩, .string ⟨#[82, 105, 103, 104, 116, 95, 84, 111, 95, 76, 101, 102, 116, 95, 69, 109, 98, 101, 100, 100, 105, 110, 103]⟩, .string ⟨#[82, 105, 103, 104, 116, 95, 84, 111, 95, 76, 101, 102, 116, 95, 79, 118, 101, 114, 114, 105, 100, 101]⟩, .string ⟨#[80, 111, 112, 95, 68, 105, 114, 101, 99, 116, 105, 111, 110, 97, 108, 95, 70, 111, 114, 109, 97, 116]⟩, .string ⟨#[76, 101, 102, 116, 95, 84, 111, 95, 82, 105, 103, 104, 116, 95, 73, 115, 111, 108, 97, 116, 101]⟩, .string ⟨#[82, 105, 103, 104, 116, 95, 84, 111, 95, 76, 101, 102, 116, 95, 73, 115, 111, 108, 97, 116, 101]⟩, .string ⟨#[70, 105, 114, 115, 116, 95, 83, 116, 114, 111, 110, 103, 95, 73, 115, 111, 108, 97, 116, 101]⟩, .string ⟨#[80, 111, 112, 95, 68, 105, 114, 101, 99, 116, 105, 111, 110, 97, 108, 95, 73, 115, 111, 108, 97, 116, 101]⟩]
theorem short_at (k : Nat) (h : k < 24) : shortVs[k]? = some (.string (shortS (k : Int))) := by
  match k, h with
  | 0, _ => rfl
  | 1, _ => rfl
  | 2, _ => rfl
  | 3, _ => rfl
  | 4, _ => rfl
  | 5, _ => rfl
  | 6, _ => rfl
  | 7, _ => rfl
  | 8, _ => rfl
  | 9, _ => rfl
  | 10, _ => rfl
  | 11, _ => rfl
  | 12, _ => rfl
  | 13, _ => rfl
  | 14, _ => rfl
  | 15, _ => rfl
  | 16, _ => rfl
  | 17, _ => rfl
  | 18, _ => rfl
  | 19, _ => rfl
  | 20, _ => rfl
  | 21, _ => rfl
  | 22, _ => rfl
  | 23, _ => rfl
  | k + 24, h => exact absurd h (by omega)
theorem long_at (k : Nat) (h : k < 24) : longVs[k]? = some (.string (longS (k : Int))) := by
  match k, h with
  | 0, _ => rfl
  | 1, _ => rfl
  | 2, _ => rfl
  | 3, _ => rfl
  | 4, _ => rfl
  | 5, _ => rfl
  | 6, _ => rfl
  | 7, _ => rfl
  | 8, _ => rfl
  | 9, _ => rfl
  | 10, _ => rfl
  | 11, _ => rfl
  | 12, _ => rfl
  | 13, _ => rfl
  | 14, _ => rfl
  | 15, _ => rfl
  | 16, _ => rfl
  | 17, _ => rfl
  | 18, _ => rfl
  | 19, _ => rfl
  | 20, _ => rfl
  | 21, _ => rfl
  | 22, _ => rfl
  | 23, _ => rfl
  | k + 24, h => exact absurd h (by omega)
theorem short_out (c : Int) (h : 24 ≤ c) : shortS c = ⟨#[]⟩ := by
  unfold shortS
  rw [if_neg (by omega), if_neg (by omega), if_neg (by omega), if_neg (by omega), if_neg (by omega), if_neg (by omega), if_neg (by omega), if_neg (by omega), if_neg (by omega), if_neg (by omega), if_neg (by omega), if_neg (by omega), if_neg (by omega), if_neg (by omega), if_neg (by omega), if_neg (by omega), if_neg (by omega), if_neg (by omega), if_neg (by omega), if_neg (by omega), if_neg (by omega), if_neg (by omega), if_neg (by omega)]
theorem long_out (c : Int) (h : 24 ≤ c) : longS c = ⟨#[]⟩ := by
  unfold longS
  rw [if_neg (by omega), if_neg (by omega), if_neg (by omega), if_neg (by omega), if_neg (by omega), if_neg (by omega), if_neg (by omega), if_neg (by omega), if_neg (by omega), if_neg (by omega), if_neg (by omega), if_neg (by omega), if_neg (by omega), if_neg (by omega), if_neg (by omega), if_neg (by omega), if_neg (by omega), if_neg (by omega), if_neg (by omega), if_neg (by omega), if_neg (by omega), if_neg (by omega), if_neg (by omega)]
theorem cell_list (w : World) (vs : List Value) (t : TypeId) (k : Nat) (v : Value) (h : vs[k]? = some v) : (w.alloc (.cells vs.toArray t)).cell? ⟨w.heap.size, k, none⟩ = some v := by
  have e := heap_alloc_new w (.cells vs.toArray t)
  simp only [World.cell?, e]
  simpa using h
set_option maxRecDepth 100000 in
set_option maxHeartbeats 1000000 in
theorem rShort_any (c : Int) (w : World) (h0 : 0 ≤ c) (h1 : c ≤ 255) :
    Calls Tryz.prog 37 #[.int .u8 c] w fun e w' => e = .returned (.string (shortS c)) ∧ Below w.heap.size w w' := by
  obtain ⟨k, rfl⟩ : ∃ k : Nat, c = k := ⟨c.toNat, by omega⟩
  by_cases hk : k < 24
  · have hc := cell_list w shortVs 9 k _ (short_at k hk)
    have hk' : (k : Int) < 24 := by omega
    generalize shortS (k : Int) = sh at *
    go_enter Tryz.func37, Tryz.ntmps37
    go_wp2
    go_ret
    exact ⟨rfl, (Below.refl _ _).alloc (Nat.le_refl _) _⟩
  · have hk' : (24 : Int) ≤ k := by omega
    rw [short_out _ hk']
    go_enter Tryz.func37, Tryz.ntmps37
    go_wp2
    go_ret
    exact ⟨rfl, (Below.refl _ _).alloc (Nat.le_refl _) _⟩
set_option maxRecDepth 100000 in
set_option maxHeartbeats 1000000 in
theorem rLong_any (c : Int) (w : World) (h0 : 0 ≤ c) (h1 : c ≤ 255) :
    Calls Tryz.prog 64 #[.int .u8 c] w fun e w' => e = .returned (.string (longS c)) ∧ Below w.heap.size w w' := by
  obtain ⟨k, rfl⟩ : ∃ k : Nat, c = k := ⟨c.toNat, by omega⟩
  by_cases hk : k < 24
  · have hc := cell_list w longVs 9 k _ (long_at k hk)
    have hk' : (k : Int) < 24 := by omega
    generalize longS (k : Int) = sh at *
    go_enter Tryz.func64, Tryz.ntmps64
    go_wp2
    go_ret
    exact ⟨rfl, (Below.refl _ _).alloc (Nat.le_refl _) _⟩
  · have hk' : (24 : Int) ≤ k := by omega
    rw [long_out _ hk']
    go_enter Tryz.func64, Tryz.ntmps64
    go_wp2
    go_ret
    exact ⟨rfl, (Below.refl _ _).alloc (Nat.le_refl _) _⟩
end Go.Proofs.YthjnkagepooeiaaGreatDoor
/-
  The document's answer for layer 5: Loose, Side.
-/
namespace Go.Proofs.YthjnkagepooeiaaGreatDoor
open Go.RowKit Go.PlainAid Go.Lib
set_option linter.unusedVariables false

abbrev looseI (l : List Int) : List Value := (looseL l).map (Value.int .i32)
theorem looseI_yes (l : List Int) (r : Int) (h : countsB r = true) : looseI (l ++ [r]) = looseI l ++ [.int .i32 (smallN r)] := by
  unfold looseI; rw [looseL_snoc_yes _ _ h, List.map_append]; rfl
theorem looseI_no (l : List Int) (r : Int) (h : countsB r = false) : looseI (l ++ [r]) = looseI l := by
  unfold looseI; rw [looseL_snoc_no _ _ h]

set_option maxRecDepth 100000 in
set_option maxHeartbeats 2000000 in
theorem rLoose_any (s : ByteArray) (w : World) (hs : s.size ≤ 1099511627776) :
    Calls Tryz.prog 63 #[.string s] w fun e w' => e = .returned (.string (looseB s)) ∧ Below w.heap.size w w' := by
  obtain ⟨i0, hi, hz0, hz1, hz2⟩ := info_parts infoRune
  have hcl := chars_length s 0
  have HLB : Hid (looseB s = runesBytes (looseL (runeInts s))) := rfl
  have HRL : Hid ((runeInts s).length = (chars s 0).length) := runeInts_len s
  have hsc : ∀ z ∈ runeInts s, 0 ≤ z ∧ z ≤ 1114111 := by
    intro z hz
    have := nums_scalar s z hz
    unfold scalarB at this; simp at this; omega
  have HSC := hide hsc
  clear hsc
  go_enter Tryz.func63, Tryz.ntmps63
  go_wp2_with fail
  refine (refRunes_any s w hs).mono ?_
  rintro e w1 ⟨v, rfl, hrow, hb1⟩
  obtain ⟨la, lc, rfl⟩ := row_sliceC hrow
  generalize hzs : runeInts s = zs at *
  generalize hL : (chars s 0).length = L at *
  clear hzs hL
  have HR1 := hide (reads_own hrow)
  clear hrow
  go_wp2
  go_loopw [4, 5] (fun v4 v5 wr => ∃ k : Nat, k ≤ L ∧ v5 = .int .i64 k ∧ wr.ownsRow w1.heap.size 21 1 v4 (looseI (zs.take k)).length (looseI (zs.take k)) ∧ Below w1.heap.size w1 wr) (fun _ v5 _ => L - (intOf v5).toNat)
  case atStart => exact ⟨0, Nat.zero_le _, rfl, by simpa [looseI, looseL] using World.ownsRow_nil w1 _ _ _, Below.refl _ _⟩
  case round =>
    obtain ⟨k, hk, rfl, hrow, hB⟩ := hrel
    by_cases hlt : k < L
    · have hkz : k < zs.length := by rw [unhide HRL]; exact hlt
      obtain ⟨g, off, rfl, hcell⟩ := (unhide HR1).below hB k hkz
      simp only [List.getD_eq_getElem?_getD] at hcell
      have hts : zs.take (k + 1) = zs.take k ++ [zs[k]?.getD 0] := by have := take_snoc' zs k hkz; simpa [List.getD_eq_getElem?_getD] using this
      have hrb := unhide HSC (zs[k]?.getD 0) (by rw [List.getElem?_eq_getElem hkz]; exact List.getElem_mem hkz)
      generalize hr : zs[k]?.getD 0 = r at *
      obtain ⟨hr0, hr1⟩ := hrb
      have hll : (looseI (zs.take k)).length ≤ k := by
        have h1 := looseL_len (zs.take k)
        rw [List.length_take] at h1
        simp only [looseI, List.length_map]; omega
      have hBs := hB.size
      obtain ⟨a', n', c', rfl⟩ : ∃ a' n' c', u4 = .slice a' n' c' := by
        rcases hrow.2 with ⟨rfl, _⟩ | ⟨g, cap, cur, rfl, _⟩
        · exact ⟨_, _, _, rfl⟩
        · exact ⟨_, _, _, rfl⟩
      cases hbl : blankB r with
      | true =>
        have hcf : countsB r = false := by unfold countsB; rw [hbl]; simp
        have HV : Hid (looseI (zs.take (k + 1)) = looseI (zs.take k)) := by show _ = _; rw [hts, looseI_no _ _ hcf]
        have HB := hide hbl
        clear hts hcf hr hbl
        go_wp2_with (go_at_call 92; refine (rBlank_any _ wr).mono ?_; rintro e w' ⟨rfl, hw⟩; obtain rfl : wr = w' := hw.symm; rw [unhide HB])
        go_roundw
        case rel => exact ⟨k + 1, by omega, by go_num, by rw [unhide HV]; exact hrow, hB⟩
        case measure => simp [intOf]; omega
      | false =>
        by_cases h95 : r = 95
        · subst h95
          have HV : Hid (looseI (zs.take (k + 1)) = looseI (zs.take k)) := by show _ = _; rw [hts, looseI_no _ _ (by decide)]
          have HB := hide hbl
          clear hts hr hbl
          go_wp2_with (go_at_call 92; refine (rBlank_any _ wr).mono ?_; rintro e w' ⟨rfl, hw⟩; obtain rfl : wr = w' := hw.symm; rw [unhide HB])
          go_roundw
          case rel => exact ⟨k + 1, by omega, by go_num, by rw [unhide HV]; exact hrow, hB⟩
          case measure => simp [intOf]; omega
        · by_cases h45 : r = 45
          · subst h45
            have HV : Hid (looseI (zs.take (k + 1)) = looseI (zs.take k)) := by show _ = _; rw [hts, looseI_no _ _ (by decide)]
            have HB := hide hbl
            clear hts hr hbl h95
            go_wp2_with (go_at_call 92; refine (rBlank_any _ wr).mono ?_; rintro e w' ⟨rfl, hw⟩; obtain rfl : wr = w' := hw.symm; rw [unhide HB])
            go_roundw
            case rel => exact ⟨k + 1, by omega, by go_num, by rw [unhide HV]; exact hrow, hB⟩
            case measure => simp [intOf]; omega
          · have g95 : (r == 95) = false := by simp [h95]
            have g45 : (r == 45) = false := by simp [h45]
            have hct : countsB r = true := by unfold countsB; simp [h95, h45, hbl]
            have HB := hide hbl
            clear hbl
            by_cases hcap : 65 ≤ r ∧ r ≤ 90
            · have hsm : smallN r = r + 32 := by unfold smallN; rw [if_pos hcap]
              have HV : Hid (looseI (zs.take (k + 1)) = looseI (zs.take k) ++ [.int .i32 (r + 32)]) := by show _ = _; rw [hts, looseI_yes _ _ hct, hsm]
              obtain ⟨q1, q2⟩ := hcap
              clear hts hct hr hsm h95 h45
              generalize looseI (zs.take k) = lv at *
              go_wp2_with (first | (go_at_call 92; refine (rBlank_any _ wr).mono ?_; rintro e w' ⟨rfl, hw⟩; obtain rfl : wr = w' := hw.symm; rw [unhide HB]) | (at_builtin; refine wpList_append_own _ rfl _ _ 172 rfl w1.heap.size 21 i0 (.int .i32 0) 1 4 Tryz.underlying172 hi hz0 hz1 hz2 rfl (by decide) _ _ _ rfl (hrow.alloc _) ⟨wr.heap.size, 0, none⟩ 1 1 [.int .i32 (r + 32)] rfl rfl (cell_one_new _ _ _) (by simp [Value.oneCell']) (by unfold maxLen; omega) (by omega) (by simp; omega) ?_; intro v' w4 hown' hgrow _))
              have hB2 := below_grown2 (hB.alloc hBs _) (by simp; omega) (hrow.alloc _) hgrow
              go_roundw
              case rel => exact ⟨k + 1, by omega, by go_num, by rw [unhide HV, List.length_append]; exact hown', hB2⟩
              case measure => simp [intOf]; omega
            · have hsm : smallN r = r := by unfold smallN; rw [if_neg hcap]
              have HV : Hid (looseI (zs.take (k + 1)) = looseI (zs.take k) ++ [.int .i32 r]) := by show _ = _; rw [hts, looseI_yes _ _ hct, hsm]
              have hcap' : r < 65 ∨ (65 ≤ r ∧ 90 < r) := by omega
              clear hts hct hr hsm h95 h45 hcap
              generalize looseI (zs.take k) = lv at *
              rcases hcap' with q1 | ⟨q1, q2⟩
              all_goals
                go_wp2_with (first | (go_at_call 92; refine (rBlank_any _ wr).mono ?_; rintro e w' ⟨rfl, hw⟩; obtain rfl : wr = w' := hw.symm; rw [unhide HB]) | (at_builtin; refine wpList_append_own _ rfl _ _ 172 rfl w1.heap.size 21 i0 (.int .i32 0) 1 4 Tryz.underlying172 hi hz0 hz1 hz2 rfl (by decide) _ _ _ rfl (hrow.alloc _) ⟨wr.heap.size, 0, none⟩ 1 1 [.int .i32 r] rfl rfl (cell_one_new _ _ _) (by simp [Value.oneCell']) (by unfold maxLen; omega) (by omega) (by simp; omega) ?_; intro v' w4 hown' hgrow _))
                have hB2 := below_grown2 (hB.alloc hBs _) (by simp; omega) (hrow.alloc _) hgrow
                go_roundw
                case rel => exact ⟨k + 1, by omega, by go_num, by rw [unhide HV, List.length_append]; exact hown', hB2⟩
                case measure => simp [intOf]; omega
    · obtain rfl : k = L := by omega
      have hte : zs.take k = zs := List.take_of_length_le (by rw [unhide HRL]; exact Nat.le_refl _)
      rw [hte] at hrow
      have hlen : (looseI zs).length = (looseL zs).length := List.length_map _
      rw [hlen] at hrow
      obtain ⟨a', c', rfl⟩ := row_sliceC hrow
      have hzl : (looseL zs).length ≤ 1099511627776 := by have h1 := looseL_len zs; rw [unhide HRL] at h1; omega
      have HE := hide (refEncode_any a' c' (looseL zs) wr (reads_own hrow) hzl)
      clear hte hlen hrow
      generalize looseL zs = ys at *
      go_wp2_with (go_at_call 93; refine (unhide HE).mono ?_; rintro e w2 ⟨rfl, hb2⟩)
      go_ret
      have hB1 := hb1.trans (hB.mono hb1.size)
      exact ⟨ret_str HLB.out.symm, hB1.trans (hb2.mono hB1.size)⟩
end Go.Proofs.YthjnkagepooeiaaGreatDoor
/-
  The document's answer for layer 5: Class.
-/
namespace Go.Proofs.YthjnkagepooeiaaGreatDoor
open Go.RowKit Go.PlainAid Go.Lib
set_option linter.unusedVariables false

theorem cls_back : ∀ k : Fin 23, classN (looseB (shortS ((k.1 + 1 : Nat) : Int))) = ((k.1 + 1 : Nat) : Int) ∧ classN (looseB (longS ((k.1 + 1 : Nat) : Int))) = ((k.1 + 1 : Nat) : Int) := by decide +kernel
theorem cls_yes (t : ByteArray) (k : Nat) (h0 : 1 ≤ k) (h1 : k ≤ 23) (h : t = looseB (shortS (k : Int)) ∨ t = looseB (longS (k : Int))) : classN t = (k : Int) := by
  obtain ⟨j, rfl⟩ : ∃ j, k = j + 1 := ⟨k - 1, by omega⟩
  have := cls_back ⟨j, by omega⟩
  rcases h with rfl | rfl
  · exact this.1
  · exact this.2
theorem ls1 : looseB (shortS (1 : Nat)) = ⟨#[108]⟩ := by decide +kernel
theorem ll1 : looseB (longS (1 : Nat)) = ⟨#[108, 101, 102, 116, 116, 111, 114, 105, 103, 104, 116]⟩ := by decide +kernel
theorem ls2 : looseB (shortS (2 : Nat)) = ⟨#[114]⟩ := by decide +kernel
theorem ll2 : looseB (longS (2 : Nat)) = ⟨#[114, 105, 103, 104, 116, 116, 111, 108, 101, 102, 116]⟩ := by decide +kernel
theorem ls3 : looseB (shortS (3 : Nat)) = ⟨#[97, 108]⟩ := by decide +kernel
theorem ll3 : looseB (longS (3 : Nat)) = ⟨#[97, 114, 97, 98, 105, 99, 108, 101, 116, 116, 101, 114]⟩ := by decide +kernel
theorem ls4 : looseB (shortS (4 : Nat)) = ⟨#[101, 110]⟩ := by decide +kernel
theorem ll4 : looseB (longS (4 : Nat)) = ⟨#[101, 117, 114, 111, 112, 101, 97, 110, 110, 117, 109, 98, 101, 114]⟩ := by decide +kernel
theorem ls5 : looseB (shortS (5 : Nat)) = ⟨#[101, 115]⟩ := by decide +kernel
theorem ll5 : looseB (longS (5 : Nat)) = ⟨#[101, 117, 114, 111, 112, 101, 97, 110, 115, 101, 112, 97, 114, 97, 116, 111, 114]⟩ := by decide +kernel
theorem ls6 : looseB (shortS (6 : Nat)) = ⟨#[101, 116]⟩ := by decide +kernel
theorem ll6 : looseB (longS (6 : Nat)) = ⟨#[101, 117, 114, 111, 112, 101, 97, 110, 116, 101, 114, 109, 105, 110, 97, 116, 111, 114]⟩ := by decide +kernel
theorem ls7 : looseB (shortS (7 : Nat)) = ⟨#[97, 110]⟩ := by decide +kernel
theorem ll7 : looseB (longS (7 : Nat)) = ⟨#[97, 114, 97, 98, 105, 99, 110, 117, 109, 98, 101, 114]⟩ := by decide +kernel
theorem ls8 : looseB (shortS (8 : Nat)) = ⟨#[99, 115]⟩ := by decide +kernel
theorem ll8 : looseB (longS (8 : Nat)) = ⟨#[99, 111, 109, 109, 111, 110, 115, 101, 112, 97, 114, 97, 116, 111, 114]⟩ := by decide +kernel
theorem ls9 : looseB (shortS (9 : Nat)) = ⟨#[110, 115, 109]⟩ := by decide +kernel
theorem ll9 : looseB (longS (9 : Nat)) = ⟨#[110, 111, 110, 115, 112, 97, 99, 105, 110, 103, 109, 97, 114, 107]⟩ := by decide +kernel
theorem ls10 : looseB (shortS (10 : Nat)) = ⟨#[98, 110]⟩ := by decide +kernel
theorem ll10 : looseB (longS (10 : Nat)) = ⟨#[98, 111, 117, 110, 100, 97, 114, 121, 110, 101, 117, 116, 114, 97, 108]⟩ := by decide +kernel
theorem ls11 : looseB (shortS (11 : Nat)) = ⟨#[98]⟩ := by decide +kernel
theorem ll11 : looseB (longS (11 : Nat)) = ⟨#[112, 97, 114, 97, 103, 114, 97, 112, 104, 115, 101, 112, 97, 114, 97, 116, 111, 114]⟩ := by decide +kernel
theorem ls12 : looseB (shortS (12 : Nat)) = ⟨#[115]⟩ := by decide +kernel
theorem ll12 : looseB (longS (12 : Nat)) = ⟨#[115, 101, 103, 109, 101, 110, 116, 115, 101, 112, 97, 114, 97, 116, 111, 114]⟩ := by decide +kernel
theorem ls13 : looseB (shortS (13 : Nat)) = ⟨#[119, 115]⟩ := by decide +kernel
theorem ll13 : looseB (longS (13 : Nat)) = ⟨#[119, 104, 105, 116, 101, 115, 112, 97, 99, 101]⟩ := by decide +kernel
theorem ls14 : looseB (shortS (14 : Nat)) = ⟨#[111, 110]⟩ := by decide +kernel
theorem ll14 : looseB (longS (14 : Nat)) = ⟨#[111, 116, 104, 101, 114, 110, 101, 117, 116, 114, 97, 108]⟩ := by decide +kernel
theorem ls15 : looseB (shortS (15 : Nat)) = ⟨#[108, 114, 101]⟩ := by decide +kernel
theorem ll15 : looseB (longS (15 : Nat)) = ⟨#[108, 101, 102, 116, 116, 111, 114, 105, 103, 104, 116, 101, 109, 98, 101, 100, 100, 105, 110, 103]⟩ := by decide +kernel
theorem ls16 : looseB (shortS (16 : Nat)) = ⟨#[108, 114, 111]⟩ := by decide +kernel
theorem ll16 : looseB (longS (16 : Nat)) = ⟨#[108, 101, 102, 116, 116, 111, 114, 105, 103, 104, 116, 111, 118, 101, 114, 114, 105, 100, 101]⟩ := by decide +kernel
theorem ls17 : looseB (shortS (17 : Nat)) = ⟨#[114, 108, 101]⟩ := by decide +kernel
theorem ll17 : looseB (longS (17 : Nat)) = ⟨#[114, 105, 103, 104, 116, 116, 111, 108, 101, 102, 116, 101, 109, 98, 101, 100, 100, 105, 110, 103]⟩ := by decide +kernel
theorem ls18 : looseB (shortS (18 : Nat)) = ⟨#[114, 108, 111]⟩ := by decide +kernel
theorem ll18 : looseB (longS (18 : Nat)) = ⟨#[114, 105, 103, 104, 116, 116, 111, 108, 101, 102, 116, 111, 118, 101, 114, 114, 105, 100, 101]⟩ := by decide +kernel
theorem ls19 : looseB (shortS (19 : Nat)) = ⟨#[112, 100, 102]⟩ := by decide +kernel
theorem ll19 : looseB (longS (19 : Nat)) = ⟨#[112, 111, 112, 100, 105, 114, 101, 99, 116, 105, 111, 110, 97, 108, 102, 111, 114, 109, 97, 116]⟩ := by decide +kernel
theorem ls20 : looseB (shortS (20 : Nat)) = ⟨#[108, 114, 105]⟩ := by decide +kernel
theorem ll20 : looseB (longS (20 : Nat)) = ⟨#[108, 101, 102, 116, 116, 111, 114, 105, 103, 104, 116, 105, 115, 111, 108, 97, 116, 101]⟩ := by decide +kernel
theorem ls21 : looseB (shortS (21 : Nat)) = ⟨#[114, 108, 105]⟩ := by decide +kernel
theorem ll21 : looseB (longS (21 : Nat)) = ⟨#[114, 105, 103, 104, 116, 116, 111, 108, 101, 102, 116, 105, 115, 111, 108, 97, 116, 101]⟩ := by decide +kernel
theorem ls22 : looseB (shortS (22 : Nat)) = ⟨#[102, 115, 105]⟩ := by decide +kernel
theorem ll22 : looseB (longS (22 : Nat)) = ⟨#[102, 105, 114, 115, 116, 115, 116, 114, 111, 110, 103, 105, 115, 111, 108, 97, 116, 101]⟩ := by decide +kernel
theorem ls23 : looseB (shortS (23 : Nat)) = ⟨#[112, 100, 105]⟩ := by decide +kernel
theorem ll23 : looseB (longS (23 : Nat)) = ⟨#[112, 111, 112, 100, 105, 114, 101, 99, 116, 105, 111, 110, 97, 108, 105, 115, 111, 108, 97, 116, 101]⟩ := by decide +kernel
theorem cls_no (t : ByteArray) (h : ∀ k : Nat, 1 ≤ k → k ≤ 23 → t ≠ looseB (shortS (k : Int)) ∧ t ≠ looseB (longS (k : Int))) : classN t = 0 := by
  unfold classN
  rw [if_neg (fun e => (h 1 (by decide) (by decide)).1 (e.trans ls1.symm)), if_neg (fun e => (h 1 (by decide) (by decide)).2 (e.trans ll1.symm)), if_neg (fun e => (h 2 (by decide) (by decide)).1 (e.trans ls2.symm)), if_neg (fun e => (h 2 (by decide) (by decide)).2 (e.trans ll2.symm)), if_neg (fun e => (h 3 (by decide) (by decide)).1 (e.trans ls3.symm)), if_neg (fun e => (h 3 (by decide) (by decide)).2 (e.trans ll3.symm)), if_neg (fun e => (h 4 (by decide) (by decide)).1 (e.trans ls4.symm)), if_neg (fun e => (h 4 (by decide) (by decide)).2 (e.trans ll4.symm)), if_neg (fun e => (h 5 (by decide) (by decide)).1 (e.trans ls5.symm)), if_neg (fun e => (h 5 (by decide) (by decide)).2 (e.trans ll5.symm)), if_neg (fun e => (h 6 (by decide) (by decide)).1 (e.trans ls6.symm)), if_neg (fun e => (h 6 (by decide) (by decide)).2 (e.trans ll6.symm)), if_neg (fun e => (h 7 (by decide) (by decide)).1 (e.trans ls7.symm)), if_neg (fun e => (h 7 (by decide) (by decide)).2 (e.trans ll7.symm)), if_neg (fun e => (h 8 (by decide) (by decide)).1 (e.trans ls8.symm)), if_neg (fun e => (h 8 (by decide) (by decide)).2 (e.trans ll8.symm)), if_neg (fun e => (h 9 (by decide) (by decide)).1 (e.trans ls9.symm)), if_neg (fun e => (h 9 (by decide) (by decide)).2 (e.trans ll9.symm)), if_neg (fun e => (h 10 (by decide) (by decide)).1 (e.trans ls10.symm)), if_neg (fun e => (h 10 (by decide) (by decide)).2 (e.trans ll10.symm)), if_neg (fun e => (h 11 (by decide) (by decide)).1 (e.trans ls11.symm)), if_neg (fun e => (h 11 (by decide) (by decide)).2 (e.trans ll11.symm)), if_neg (fun e => (h 12 (by decide) (by decide)).1 (e.trans ls12.symm)), if_neg (fun e => (h 12 (by decide) (by decide)).2 (e.trans ll12.symm)), if_neg (fun e => (h 13 (by decide) (by decide)).1 (e.trans ls13.symm)), if_neg (fun e => (h 13 (by decide) (by decide)).2 (e.trans ll13.symm)), if_neg (fun e => (h 14 (by decide) (by decide)).1 (e.trans ls14.symm)), if_neg (fun e => (h 14 (by decide) (by decide)).2 (e.trans ll14.symm)), if_neg (fun e => (h 15 (by decide) (by decide)).1 (e.trans ls15.symm)), if_neg (fun e => (h 15 (by decide) (by decide)).2 (e.trans ll15.symm)), if_neg (fun e => (h 16 (by decide) (by decide)).1 (e.trans ls16.symm)), if_neg (fun e => (h 16 (by decide) (by decide)).2 (e.trans ll16.symm)), if_neg (fun e => (h 17 (by decide) (by decide)).1 (e.trans ls17.symm)), if_neg (fun e => (h 17 (by decide) (by decide)).2 (e.trans ll17.symm)), if_neg (fun e => (h 18 (by decide) (by decide)).1 (e.trans ls18.symm)), if_neg (fun e => (h 18 (by decide) (by decide)).2 (e.trans ll18.symm)), if_neg (fun e => (h 19 (by decide) (by decide)).1 (e.trans ls19.symm)), if_neg (fun e => (h 19 (by decide) (by decide)).2 (e.trans ll19.symm)), if_neg (fun e => (h 20 (by decide) (by decide)).1 (e.trans ls20.symm)), if_neg (fun e => (h 20 (by decide) (by decide)).2 (e.trans ll20.symm)), if_neg (fun e => (h 21 (by decide) (by decide)).1 (e.trans ls21.symm)), if_neg (fun e => (h 21 (by decide) (by decide)).2 (e.trans ll21.symm)), if_neg (fun e => (h 22 (by decide) (by decide)).1 (e.trans ls22.symm)), if_neg (fun e => (h 22 (by decide) (by decide)).2 (e.trans ll22.symm)), if_neg (fun e => (h 23 (by decide) (by decide)).1 (e.trans ls23.symm)), if_neg (fun e => (h 23 (by decide) (by decide)).2 (e.trans ll23.symm))]
theorem shortS_size (k : Nat) (h : k ≤ 23) : (shortS (k : Int)).size ≤ 4 := by
  have : ∀ k : Fin 24, (shortS ((k.1 : Nat) : Int)).size ≤ 4 := by decide +kernel
  exact this ⟨k, by omega⟩
theorem longS_size (k : Nat) (h : k ≤ 23) : (longS (k : Int)).size ≤ 32 := by
  have : ∀ k : Fin 24, (longS ((k.1 : Nat) : Int)).size ≤ 32 := by decide +kernel
  exact this ⟨k, by omega⟩

set_option maxRecDepth 100000 in
set_option maxHeartbeats 2000000 in
theorem rClass_any (s : ByteArray) (w : World) (hs : s.size ≤ 1099511627776) :
    Calls Tryz.prog 36 #[.string s] w fun e w' => e = .returned (.int .u8 (classN (looseB s))) ∧ Below w.heap.size w w' := by
  go_enter Tryz.func36, Tryz.ntmps36
  go_wp2_with fail
  refine (rLoose_any s w hs).mono ?_
  rintro e w1 ⟨rfl, hb1⟩
  generalize hT : looseB s = t at *
  have HT := hide hT
  clear hT
  go_wp2
  go_loopw [4] (fun v4 wr => ∃ k : Nat, 1 ≤ k ∧ k ≤ 24 ∧ v4 = .int .i64 k ∧ Hid (∀ j : Nat, 1 ≤ j → j < k → t ≠ looseB (shortS (j : Int)) ∧ t ≠ looseB (longS (j : Int))) ∧ Below w.heap.size w wr) (fun v4 _ => 24 - (intOf v4).toNat)
  case atStart => exact ⟨1, by omega, by omega, rfl, fun j h1 h2 => by omega, hb1⟩
  case round =>
    obtain ⟨k, hk1, hk2, rfl, HN, hB⟩ := hrel
    by_cases hlt : k ≤ 23
    · have hw8 : IntKind.u8.wrap (k : Int) = k := by rw [IntKind.wrap_u8]; omega
      have hS := shortS_size k hlt
      have hL := longS_size k hlt
      by_cases e1 : t = looseB (shortS (k : Int))
      · have g1 : (t.toList == (looseB (shortS (k : Int))).toList) = true := by rw [Go.Switch.str_test]; simp [e1]
        have HE := hide (cls_yes t k hk1 hlt (.inl e1))
        clear e1
        go_wp2_with (first
          | (go_at_call 37; refine (rShort_any _ _ (by omega) (by omega)).mono ?_; rintro e w2 ⟨rfl, hb2⟩)
          | (go_at_call 63; refine (rLoose_any (shortS (k : Int)) _ (by omega)).mono ?_; rintro e w3 ⟨rfl, hb3⟩))
        go_ret
        have hB2 := hB.trans (hb2.mono hB.size)
        exact ⟨ret_int (by rw [unhide HT]; exact (unhide HE).symm), hB2.trans (hb3.mono hB2.size)⟩
      · have g1 : (t.toList == (looseB (shortS (k : Int))).toList) = false := by rw [Go.Switch.str_test]; simp [e1]
        by_cases e2 : t = looseB (longS (k : Int))
        · have g2 : (t.toList == (looseB (longS (k : Int))).toList) = true := by rw [Go.Switch.str_test]; simp [e2]
          have HE := hide (cls_yes t k hk1 hlt (.inr e2))
          clear e1 e2
          go_wp2_with (first
            | (go_at_call 37; refine (rShort_any _ _ (by omega) (by omega)).mono ?_; rintro e w2 ⟨rfl, hb2⟩)
            | (go_at_call 64; refine (rLong_any _ _ (by omega) (by omega)).mono ?_; rintro e w4 ⟨rfl, hb4⟩)
            | (go_at_call 63; with_reducible refine (rLoose_any (shortS (k : Int)) _ (by omega)).mono ?_; rintro e w3 ⟨rfl, hb3⟩)
            | (go_at_call 63; with_reducible refine (rLoose_any (longS (k : Int)) _ (by omega)).mono ?_; rintro e w5 ⟨rfl, hb5⟩))
          go_ret
          have hB2 := hB.trans (hb2.mono hB.size)
          have hB3 := hB2.trans (hb3.mono hB2.size)
          have hB4 := hB3.trans (hb4.mono hB3.size)
          exact ⟨ret_int (by rw [unhide HT]; exact (unhide HE).symm), hB4.trans (hb5.mono hB4.size)⟩
        · have g2 : (t.toList == (looseB (longS (k : Int))).toList) = false := by rw [Go.Switch.str_test]; simp [e2]
          have HN2 : Hid (∀ j : Nat, 1 ≤ j → j < k + 1 → t ≠ looseB (shortS (j : Int)) ∧ t ≠ looseB (longS (j : Int))) := by
            intro j h1 h2
            by_cases hj : j < k
            · exact HN.out j h1 hj
            · obtain rfl : j = k := by omega
              exact ⟨e1, e2⟩
          clear e1 e2
          go_wp2_with (first
            | (go_at_call 37; refine (rShort_any _ _ (by omega) (by omega)).mono ?_; rintro e w2 ⟨rfl, hb2⟩)
            | (go_at_call 64; refine (rLong_any _ _ (by omega) (by omega)).mono ?_; rintro e w4 ⟨rfl, hb4⟩)
            | (go_at_call 63; with_reducible refine (rLoose_any (shortS (k : Int)) _ (by omega)).mono ?_; rintro e w3 ⟨rfl, hb3⟩)
            | (go_at_call 63; with_reducible refine (rLoose_any (longS (k : Int)) _ (by omega)).mono ?_; rintro e w5 ⟨rfl, hb5⟩))
          have hB2 := hB.trans (hb2.mono hB.size)
          have hB3 := hB2.trans (hb3.mono hB2.size)
          have hB4 := hB3.trans (hb4.mono hB3.size)
          go_roundw
          case rel => exact ⟨k + 1, by omega, by omega, by go_num, HN2, hB4.trans (hb5.mono hB4.size)⟩
          case measure => simp [intOf]; omega
    · have hlt' : (23 : Int) < k := by omega
      have HE := hide (cls_no t (fun j h1 h2 => HN.out j h1 (by omega)))
      go_wp2
      go_ret
      exact ⟨ret_int (by rw [unhide HT]; exact (unhide HE).symm), hB⟩
end Go.Proofs.YthjnkagepooeiaaGreatDoor

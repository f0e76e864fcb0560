/-
  What Read makes of two texts, one behind the other.
-/
import Derived.Test.YtnabbahdmajfpaaGreatDoorRApM
import Derived.Test.YtnabbahdmajfpaaGreatDoorLRead
import Derived.Test.YtnabbahdmajfpaaGreatDoorRScanM
namespace Go.Proofs.YtnabbahdmajfpaaGreatDoor
open Go.RowKit Go.PlainAid Go.Lib Go.Shelf
set_option linter.unusedVariables false

theorem ext_first (a b : ByteArray) (f t : Nat) (ht : t ≤ a.size) (hft : f ≤ t) : (a ++ b).extract f t = a.extract f t := by
  rw [← S_L ((a ++ b).extract f t), ← S_L (a.extract f t), L_extract, L_extract, L_app, List.drop_append_of_le_length (by rw [L_len]; omega), List.take_append_of_le_length (by rw [List.length_drop, L_len]; omega)]
theorem ext_second (a b : ByteArray) (f t : Nat) : (a ++ b).extract (a.size + f) (a.size + t) = b.extract f t := by
  rw [← S_L ((a ++ b).extract (a.size + f) (a.size + t)), ← S_L (b.extract f t), L_extract, L_extract, L_app, ← L_len a, List.drop_append, List.drop_of_length_le (by omega), List.nil_append, Nat.add_sub_cancel_left, show (L a).length + t - ((L a).length + f) = t - f by omega]
/-- a line with another number -/
def withNo (d : LineD) (no : Int) : LineD := { d with no := no }
theorem order_no (no no' : Int) (l : List UInt8) : (orderS no' l).2 = (orderS no l).2 ∧ ((orderS no l).2 = 0 → (orderS no' l).1 = withNo (orderS no l).1 no') := by
  unfold orderS
  split
  · exact ⟨rfl, fun _ => rfl⟩
  · exact ⟨rfl, fun h => by cases h⟩
theorem scan_no (no no' : Int) (s : ByteArray) : (scanS no' s).2 = (scanS no s).2 ∧ ((scanS no s).2 = 0 → (scanS no' s).1 = withNo (scanS no s).1 no') := by
  unfold scanS
  split
  · exact ⟨rfl, fun h => absurd h (by assumption)⟩
  · split
    · exact order_no no no' _
    · refine ⟨rfl, fun _ => ?_⟩
      unfold plainS
      split
      · rfl
      · split <;> rfl
theorem scan_number (no : Int) (s : ByteArray) (h : (scanS no s).2 = 0) : (scanS no s).1.no = no := by
  unfold scanS at h ⊢
  split at h
  · exact absurd h (by assumption)
  · rename_i hc
    rw [if_neg hc]
    split at h
    · rename_i hp
      rw [if_pos hp]
      unfold orderS at h ⊢
      split at h
      · rename_i hq; rw [if_pos hq]
      · cases h
    · rename_i hp
      rw [if_neg hp]
      unfold plainS
      simp only []
      split
      · rfl
      · split <;> rfl
theorem scanX_first (a b : ByteArray) (x : Nat × Nat × Nat) (h : x ∈ linesL a) : scanX (a ++ b) x = scanX a x := by
  have hm := lines_mem a x h
  unfold scanX
  rw [ext_first a b _ _ hm.2.1 hm.1]
theorem scanX_second (a b : ByteArray) (d : Nat) (y : Nat × Nat × Nat) : (scanX (a ++ b) (shiftL d a.size y)).2 = (scanX b y).2 ∧ ((scanX b y).2 = 0 → (scanX (a ++ b) (shiftL d a.size y)).1 = withNo (scanX b y).1 ((y.1 + d : Nat) : Int)) := by
  unfold scanX shiftL
  simp only []
  rw [ext_second]
  exact scan_no (y.1 : Nat) ((y.1 + d : Nat) : Int) _
theorem rd_cases (s : ByteArray) : ∀ l : List (Nat × Nat × Nat), (∀ x ∈ l, (scanX s x).2 = 0) ∨ ∃ p x r, l = p ++ x :: r ∧ (∀ y ∈ p, (scanX s y).2 = 0) ∧ (scanX s x).2 ≠ 0
  | [] => .inl (by simp)
  | x :: l => by
    by_cases hx : (scanX s x).2 = 0
    · rcases rd_cases s l with h | ⟨p, y, r, rfl, h1, h2⟩
      · exact .inl (by intro y hy; rcases List.mem_cons.1 hy with rfl | hy; exact hx; exact h y hy)
      · exact .inr ⟨x :: p, y, r, rfl, by intro z hz; rcases List.mem_cons.1 hz with rfl | hz; exact hx; exact h1 z hz, h2⟩
    · exact .inr ⟨[], x, l, rfl, by simp, hx⟩
/-- what is read of both -/
theorem read_app (a b : ByteArray) (h0 : 0 < a.size) (hl : bN a (a.size - 1) = 10) (hm : markN b = 0) :
    (∀ no code, (readS a).2 = some (no, code) → (readS (a ++ b)).2 = some (no, code)) ∧
    ((readS a).2 = none → (readS a).1.length = (linesL a).length ∧ (∀ no code, (readS b).2 = some (no, code) → (readS (a ++ b)).2 = some (no + (linesL a).length, code)) ∧
      ((readS b).2 = none → readS (a ++ b) = ((readS a).1 ++ (readS b).1.map (fun d => withNo d (d.no + ((linesL a).length : Nat))), none))) := by
  have hla := lines_app a b h0 hl hm
  unfold readS
  rw [hla]
  have fa : ∀ x ∈ linesL a, scanX (a ++ b) x = scanX a x := fun x hx => scanX_first a b x hx
  rcases rd_cases a (linesL a) with hok | ⟨p, x, r, hp, h1, h2⟩
  · rw [rd_ok a _ hok]
    refine ⟨(by intro no code h; cases h), fun _ => ⟨by simp, ?_, ?_⟩⟩
    · intro no code hb
      rcases rd_cases b (linesL b) with hok2 | ⟨q, y, r, hq, g1, g2⟩
      · rw [rd_ok b _ hok2] at hb; cases hb
      · rw [hq, rd_bad b q r y g1 g2] at hb
        obtain ⟨rfl, rfl⟩ : y.1 = no ∧ (scanX b y).2 = code := by
          have := Option.some.inj hb
          exact ⟨congrArg Prod.fst this, congrArg Prod.snd this⟩
        rw [hq, List.map_append, List.map_cons, ← List.append_assoc]
        have hs := scanX_second a b (linesL a).length y
        rw [rd_bad (a ++ b) _ _ (shiftL (linesL a).length a.size y) (fun z hz => by
          rcases List.mem_append.1 hz with h | h
          · rw [fa z h]; exact hok z h
          · obtain ⟨u, hu, rfl⟩ := List.mem_map.1 h
            rw [(scanX_second a b (linesL a).length u).1]; exact g1 u hu) (by rw [hs.1]; exact g2), hs.1]
        rfl
    · intro hb
      rcases rd_cases b (linesL b) with hok2 | ⟨q, y, r, hq, g1, g2⟩
      · rw [rd_ok b _ hok2]
        rw [rd_ok (a ++ b) _ (fun z hz => by
          rcases List.mem_append.1 hz with h | h
          · rw [fa z h]; exact hok z h
          · obtain ⟨u, hu, rfl⟩ := List.mem_map.1 h
            rw [(scanX_second a b (linesL a).length u).1]; exact hok2 u hu)]
        have e1 : (linesL a).map (fun x => (scanX (a ++ b) x).1) = (linesL a).map (fun x => (scanX a x).1) := List.map_congr_left fun x hx => by rw [fa x hx]
        have e2 : (linesL b).map (fun u => (scanX (a ++ b) (shiftL (linesL a).length a.size u)).1) = (linesL b).map (fun u => withNo (scanX b u).1 ((scanX b u).1.no + ((linesL a).length : Nat))) := List.map_congr_left fun u hu => by
          rw [(scanX_second a b (linesL a).length u).2 (hok2 u hu)]
          have hno : (scanX b u).1.no = (u.1 : Nat) := scan_number _ _ (hok2 u hu)
          rw [hno]; rfl
        rw [List.map_append, List.map_map, List.map_map, e1]
        exact congrArg (fun z => ((linesL a).map (fun x => (scanX a x).1) ++ z, none)) e2
      · rw [hq, rd_bad b q r y g1 g2] at hb; cases hb
  · have hbad := rd_bad a p r x h1 h2
    rw [hp] at hla fa ⊢
    refine ⟨fun no code h => ?_, fun h => ?_⟩
    · rw [hbad] at h
      rw [← h, List.append_assoc, List.cons_append, rd_bad (a ++ b) p _ x (fun z hz => by rw [fa z (by simp [hz])]; exact h1 z hz) (by rw [fa x (by simp)]; exact h2), fa x (by simp)]
    · rw [hbad] at h; cases h
end Go.Proofs.YtnabbahdmajfpaaGreatDoor

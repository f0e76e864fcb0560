/-
  A text mirrored, as mathematics: what it becomes, how many are replaced; twice is not at all; each character where it was.
-/
import Derived.Test.YtnabbahdmajfpaaGreatDoorMrM
import Derived.Test.YtnabbahdmajfpaaGreatDoorUb
namespace Go.Proofs.YtnabbahdmajfpaaGreatDoor
open Go.RowKit
set_option linter.unusedVariables false

/-- the mirror of the character that stands there, if it has one -/
def hasM (l : List MirD) (d : Nat × Nat) : Option Int := if d = (65533, 1) then none else ofM l (d.1 : Nat)
def outF (l : List MirD) (s : ByteArray) : Nat → Nat → ByteArray × Nat
  | 0, _ => (ByteArray.empty, 0)
  | f + 1, i => if i < s.size then
      (match hasM l (Utf8.decode s i) with
        | some t => (Utf8.encode t ++ (outF l s f (i + (Utf8.decode s i).2)).1, (outF l s f (i + (Utf8.decode s i).2)).2 + 1)
        | none => (s.extract i (i + (Utf8.decode s i).2) ++ (outF l s f (i + (Utf8.decode s i).2)).1, (outF l s f (i + (Utf8.decode s i).2)).2))
    else (ByteArray.empty, 0)
/-- what the text is mirrored to from byte i on, and how many are replaced there -/
def outR (l : List MirD) (s : ByteArray) (i : Nat) : ByteArray × Nat := outF l s (s.size - i) i
theorem outF_end (l : List MirD) (s : ByteArray) (f i : Nat) (h : ¬ i < s.size) : outF l s f i = (ByteArray.empty, 0) := by
  cases f with
  | zero => rfl
  | succ f => unfold outF; rw [if_neg h]
theorem outF_any (l : List MirD) (s : ByteArray) : ∀ (f g i : Nat), s.size - i ≤ f → s.size - i ≤ g → outF l s f i = outF l s g i := by
  intro f
  induction f with
  | zero => intro g i h1 h2; rw [outF_end l s 0 i (by omega), outF_end l s g i (by omega)]
  | succ f ih =>
    intro g i h1 h2
    by_cases hi : i < s.size
    · cases g with
      | zero => omega
      | succ g =>
        have hb := dec_bounds s i hi
        unfold outF
        rw [if_pos hi, if_pos hi, ih g (i + (Utf8.decode s i).2) (by omega) (by omega)]
    · rw [outF_end l s _ i hi, outF_end l s _ i hi]
theorem outF_succ (l : List MirD) (s : ByteArray) (f i : Nat) : outF l s (f + 1) i = if i < s.size then
      (match hasM l (Utf8.decode s i) with
        | some t => (Utf8.encode t ++ (outF l s f (i + (Utf8.decode s i).2)).1, (outF l s f (i + (Utf8.decode s i).2)).2 + 1)
        | none => (s.extract i (i + (Utf8.decode s i).2) ++ (outF l s f (i + (Utf8.decode s i).2)).1, (outF l s f (i + (Utf8.decode s i).2)).2))
    else (ByteArray.empty, 0) := rfl
theorem outR_end (l : List MirD) (s : ByteArray) (i : Nat) (h : ¬ i < s.size) : outR l s i = (ByteArray.empty, 0) := outF_end l s _ i h
theorem outR_step (l : List MirD) (s : ByteArray) (i : Nat) (hi : i < s.size) : outR l s i = (match hasM l (Utf8.decode s i) with
    | some t => (Utf8.encode t ++ (outR l s (i + (Utf8.decode s i).2)).1, (outR l s (i + (Utf8.decode s i).2)).2 + 1)
    | none => (s.extract i (i + (Utf8.decode s i).2) ++ (outR l s (i + (Utf8.decode s i).2)).1, (outR l s (i + (Utf8.decode s i).2)).2)) := by
  have hb := dec_bounds s i hi
  unfold outR
  obtain ⟨f, hf⟩ : ∃ f, s.size - i = f + 1 := ⟨s.size - i - 1, by omega⟩
  rw [hf, outF_succ, if_pos hi, outF_any l s f (s.size - (i + (Utf8.decode s i).2)) (i + (Utf8.decode s i).2) (by omega) (by omega)]
theorem outR_size (l : List MirD) (s : ByteArray) : ∀ (k i : Nat), s.size - i ≤ k → (outR l s i).1.size ≤ 4 * (s.size - i) ∧ (outR l s i).2 ≤ s.size - i := by
  intro k
  induction k with
  | zero => intro i h; rw [outR_end l s i (by omega)]; exact ⟨by simp, by simp⟩
  | succ k ih =>
    intro i h
    by_cases hi : i < s.size
    · have hb := dec_bounds s i hi
      have hr := ih (i + (Utf8.decode s i).2) (by omega)
      rw [outR_step l s i hi]
      cases hasM l (Utf8.decode s i) with
      | some t =>
        have := encode_size_le t
        simp only [ByteArray.size_append]
        omega
      | none =>
        simp only [ByteArray.size_append, ByteArray.size_extract]
        omega
    · rw [outR_end l s i hi]; exact ⟨by simp, by simp⟩

theorem app_nil (t : ByteArray) : t ++ ByteArray.empty = t := by simp
theorem app_assoc (a b c : ByteArray) : a ++ b ++ c = a ++ (b ++ c) := ByteArray.append_assoc
theorem ext_end (s : ByteArray) : s.extract s.size s.size = ByteArray.empty := bytes_ext (by simp) (fun k hk => absurd hk (by simp))
theorem dec_ext (s : ByteArray) (i : Nat) (hi : i < s.size) : Utf8.decode (s.extract i s.size) 0 = Utf8.decode s i := by
  have hz : 0 < (s.extract i s.size).size := by rw [extract_size]; omega
  rw [decode_decB _ _ hz, decode_decB s i hi, extract_size, bN_extract, bN_extract, bN_extract, bN_extract]
  rfl
theorem has_wrong (l : List MirD) : hasM l (65533, 1) = none := if_pos rfl
theorem ne_wrong {x n : Nat} (h : bytesN x = n) : ¬ ((x, n) : Nat × Nat) = (65533, 1) := by
  intro e
  obtain ⟨rfl, rfl⟩ : x = 65533 ∧ n = 1 := by simpa using e
  exact absurd h (by decide)
theorem has_right (l : List MirD) {x n : Nat} (h : bytesN x = n) : hasM l (x, n) = ofM l (x : Nat) := if_neg (ne_wrong h)
/-- a text and what it is mirrored to, character by character -/
inductive SimL (l : List MirD) : ByteArray → ByteArray → Nat → Prop
  | nil : SimL l ByteArray.empty ByteArray.empty 0
  | stay (x : Nat) (t u : ByteArray) (n : Nat) : scalarB x = true → ofM l x = none → SimL l t u n → SimL l (Utf8.encode x ++ t) (Utf8.encode x ++ u) n
  | turn (x : Nat) (y : Int) (t u : ByteArray) (n : Nat) : scalarB x = true → ofM l x = some y → SimL l t u n → SimL l (Utf8.encode x ++ t) (Utf8.encode y ++ u) (n + 1)
  | wrong (b t u : ByteArray) (n : Nat) : b.size = 1 → Utf8.decode (b ++ t) 0 = (65533, 1) → SimL l t u n → SimL l (b ++ t) (b ++ u) n

theorem outR_right1 (l : List MirD) (s : ByteArray) (i x n : Nat) (hi : i < s.size) (g1 : Utf8.decode s i = (x, n)) (g3 : bytesN x = n) : outR l s i = (match ofM l (x : Nat) with
    | some t => (Utf8.encode t ++ (outR l s (i + n)).1, (outR l s (i + n)).2 + 1)
    | none => (s.extract i (i + n) ++ (outR l s (i + n)).1, (outR l s (i + n)).2)) := by
  rw [outR_step l s i hi, g1, has_right l g3]
theorem outR_wrong1 (l : List MirD) (s : ByteArray) (i : Nat) (hi : i < s.size) (g1 : Utf8.decode s i = (65533, 1)) : outR l s i = (s.extract i (i + 1) ++ (outR l s (i + 1)).1, (outR l s (i + 1)).2) := by
  rw [outR_step l s i hi, g1, has_wrong]
set_option maxRecDepth 100000 in
theorem sim_out (l : List MirD) (s : ByteArray) : ∀ (k i : Nat), s.size - i ≤ k → i ≤ s.size → SimL l (s.extract i s.size) (outR l s i).1 (outR l s i).2 := by
  intro k
  induction k with
  | zero =>
    intro i h1 h2
    obtain rfl : i = s.size := by omega
    rw [outR_end l s _ (by omega), ext_end]
    exact .nil
  | succ k ih =>
    intro i h1 h2
    by_cases hi : i < s.size
    · have hb := dec_bounds s i hi
      rcases dec_why s i hi with ⟨_, x, n, g1, g2, g3, g4⟩ | ⟨_, g1⟩
      · have hn : 1 ≤ n := by rw [g1] at hb; exact hb.1
        have hr := ih (i + n) (by omega) g4
        rw [outR_right1 l s i x n hi g1 g3, extract_split s i n g4, enc_dec s i x n hi g1 g2 g3 g4]
        cases ho : ofM l (x : Nat) with
        | some t => exact .turn x t _ _ _ g2 ho hr
        | none => exact .stay x _ _ _ g2 ho hr
      · have h1 : i + 1 ≤ s.size := hi
        have hr := ih (i + 1) (by omega) h1
        have hd : Utf8.decode (s.extract i (i + 1) ++ s.extract (i + 1) s.size) 0 = (65533, 1) := by rw [← extract_split s i 1 h1, dec_ext s i hi]; exact g1
        rw [outR_wrong1 l s i hi g1, extract_split s i 1 h1]
        exact .wrong _ _ _ _ (by rw [ByteArray.size_extract]; omega) hd hr
    · obtain rfl : i = s.size := by omega
      rw [outR_end l s _ (by omega), ext_end]
      exact .nil
theorem extract_all (s : ByteArray) : s.extract 0 s.size = s := by simp
theorem sim_whole (l : List MirD) (s : ByteArray) : SimL l s (outR l s 0).1 (outR l s 0).2 := by
  have h := sim_out l s s.size 0 (by omega) (Nat.zero_le _)
  rwa [extract_all] at h
/-- a character's first byte is no tail -/
theorem enc_head (y : Int) (t : ByteArray) : ¬ bN (Utf8.encode y ++ t) 0 / 64 = 2 := by
  rw [encode_fix y]
  have hs := fix_scalar y
  have h1 := (dec_enc (fixN y) hs ByteArray.empty).2
  rw [bN_append, if_pos (by omega)]
  have hb := scalar_bounds _ hs
  rcases enc_bytes (fixN y) hs with ⟨c, e, e0⟩ | ⟨c, c', e, e0, e1⟩ | ⟨c, c', e, e0, e1, e2⟩ | ⟨c, c', e, e0, e1, e2, e3⟩
  all_goals rw [e0]; omega
theorem sim_dec {l : List MirD} {t u : ByteArray} {n : Nat} (h : SimL l t u n) : ∀ (A : ByteArray) (i : Nat), i < A.size → Utf8.decode (A ++ t) i = Utf8.decode (A ++ u) i := by
  induction h with
  | nil => intro A i hi; rfl
  | stay x t u n hx ho h ih =>
    intro A i hi
    rw [dec_left A _ i hi (.inr (.inr (enc_head x t))), dec_left A _ i hi (.inr (.inr (enc_head x u)))]
  | turn x y t u n hx ho h ih =>
    intro A i hi
    rw [dec_left A _ i hi (.inr (.inr (enc_head x t))), dec_left A _ i hi (.inr (.inr (enc_head y u)))]
  | wrong b t u n hb hd h ih =>
    intro A i hi
    have := ih (A ++ b) i (by rw [ByteArray.size_append]; omega)
    rwa [app_assoc, app_assoc] at this
/-- mirrored by mirrors that may be, and are characters: mirrored back it is the text -/
theorem sim_back {l : List MirD} (hw : ∀ k, k < l.length → wrongM l k = 0) (ht : ∀ k, k < l.length → twistM l k = 0) (hs : ∀ x ∈ l, ¬ (55296 ≤ x.frm ∧ x.frm ≤ 57343)) {t u : ByteArray} {n : Nat} (h : SimL l t u n) : SimL l u t n := by
  induction h with
  | nil => exact .nil
  | stay x t u n hx ho h ih => exact .stay x u t n hx ho ih
  | turn x y t u n hx ho h ih =>
    obtain ⟨h1, h2, h3, h4⟩ := of_back hw ht ho
    obtain ⟨z, hz, hz1, _⟩ := of_some h1
    have hsz := hs z hz
    rw [hz1] at hsz
    unfold isPtM at h3
    simp only [Bool.and_eq_true, decide_eq_true_eq] at h3
    obtain ⟨m, rfl⟩ : ∃ m : Nat, y = m := ⟨y.toNat, by omega⟩
    have hsc : scalarB (m : Int) = true := by
      unfold scalarB halfB
      simp only [Bool.and_eq_true, Bool.not_eq_true', Bool.and_eq_false_iff, decide_eq_true_eq, decide_eq_false_iff_not]
      omega
    exact .turn m x u t n hsc h1 ih
  | wrong b t u n hb hd h ih =>
    refine .wrong b u t n hb ?_ ih
    rw [← sim_dec h b 0 (by omega)]
    exact hd
theorem extract_right (a t : ByteArray) (i j : Nat) (hij : i ≤ j) (hj : j ≤ t.size) : (a ++ t).extract (a.size + i) (a.size + j) = t.extract i j := by
  refine bytes_ext (by simp [ByteArray.size_extract, ByteArray.size_append]; omega) (fun k hk => ?_)
  have hk' : k < j - i := by simp [ByteArray.size_extract, ByteArray.size_append] at hk; omega
  have hx : ∀ (s : ByteArray) (a b j : Nat), a + j < b → b ≤ s.size → bN (s.extract a b) j = bN s (a + j) := by
    intro s a b j h1 h2
    unfold bN
    rw [get_in _ _ (by simp [ByteArray.size_extract]; omega), get_in s (a + j) (by omega)]
    simp [ByteArray.getElem_extract]
  rw [hx _ _ _ _ (by omega) (by rw [ByteArray.size_append]; omega), hx _ _ _ _ (by omega) hj, bN_append, if_neg (by omega)]
  congr 1; omega
theorem outR_right (l : List MirD) (a t : ByteArray) : ∀ (k i : Nat), t.size - i ≤ k → outR l (a ++ t) (a.size + i) = outR l t i := by
  intro k
  induction k with
  | zero => intro i h; rw [outR_end l _ _ (by rw [ByteArray.size_append]; omega), outR_end l t i (by omega)]
  | succ k ih =>
    intro i h
    by_cases hi : i < t.size
    · have hb := dec_bounds t i hi
      rw [outR_step l _ _ (by rw [ByteArray.size_append]; omega), outR_step l t i hi, dec_right a t i hi, Nat.add_assoc, ih _ (by omega), extract_right a t i (i + (Utf8.decode t i).2) (by omega) hb.2.2]
    · rw [outR_end l _ _ (by rw [ByteArray.size_append]; omega), outR_end l t i hi]
theorem outR_behind (l : List MirD) (a t : ByteArray) : outR l (a ++ t) a.size = outR l t 0 := by
  have := outR_right l a t t.size 0 (by omega)
  simpa using this
theorem extract_front (a t : ByteArray) : (a ++ t).extract 0 a.size = a := by
  refine bytes_ext (by simp [ByteArray.size_extract, ByteArray.size_append]) (fun k hk => ?_)
  have hk' : k < a.size := by simp [ByteArray.size_extract, ByteArray.size_append] at hk; omega
  have hx : ∀ (s : ByteArray) (a b j : Nat), a + j < b → b ≤ s.size → bN (s.extract a b) j = bN s (a + j) := by
    intro s a b j h1 h2
    unfold bN
    rw [get_in _ _ (by simp [ByteArray.size_extract]; omega), get_in s (a + j) (by omega)]
    simp [ByteArray.getElem_extract]
  rw [hx _ _ _ _ (by omega) (by rw [ByteArray.size_append]; omega), bN_append, if_pos (by omega)]
  congr 1; omega
theorem enc_bytesN (x : Nat) (hx : scalarB x = true) : bytesN x = (Utf8.encode x).size := by
  unfold bytesN
  rcases enc_bytes x hx with ⟨c, e, _⟩ | ⟨c, c', e, _⟩ | ⟨c, c', e, _⟩ | ⟨c, c', e, _⟩
  · rw [e, if_pos (by omega)]; rfl
  · rw [e, if_neg (by omega), if_pos (by omega)]; rfl
  · rw [e, if_neg (by omega), if_neg (by omega), if_pos (by omega)]; rfl
  · rw [e, if_neg (by omega), if_neg (by omega), if_neg (by omega)]; rfl
theorem out_sim {l : List MirD} {t u : ByteArray} {n : Nat} (h : SimL l t u n) : outR l t 0 = (u, n) := by
  induction h with
  | nil => exact outR_end l _ 0 (by simp)
  | stay x t u n hx ho h ih =>
    obtain ⟨h1, h2⟩ := dec_enc x hx t
    rw [outR_step l _ 0 (by rw [ByteArray.size_append]; omega), h1]
    rw [has_right l (enc_bytesN x hx), ho]
    simp only [Nat.zero_add]
    rw [outR_behind, ih, extract_front]
  | turn x y t u n hx ho h ih =>
    obtain ⟨h1, h2⟩ := dec_enc x hx t
    rw [outR_step l _ 0 (by rw [ByteArray.size_append]; omega), h1]
    rw [has_right l (enc_bytesN x hx), ho]
    simp only [Nat.zero_add]
    rw [outR_behind, ih]
  | wrong b t u n hb hd h ih =>
    rw [outR_step l _ 0 (by rw [ByteArray.size_append]; omega), hd]
    rw [has_wrong]
    simp only [Nat.zero_add]
    rw [← hb, outR_behind, ih, extract_front]
/-- P9.8 -/
theorem out_twice {l : List MirD} (hw : ∀ k, k < l.length → wrongM l k = 0) (ht : ∀ k, k < l.length → twistM l k = 0) (hs : ∀ x ∈ l, ¬ (55296 ≤ x.frm ∧ x.frm ≤ 57343)) (s : ByteArray) : outR l (outR l s 0).1 0 = (s, (outR l s 0).2) :=
  out_sim (sim_back hw ht hs (sim_whole l s))
/-- the runes of a text and of what it is mirrored to -/
inductive RuneL (l : List MirD) : List Nat → List Nat → Nat → Prop
  | nil : RuneL l [] [] 0
  | stay (x : Nat) (t u : List Nat) (n : Nat) : RuneL l t u n → RuneL l (x :: t) (x :: u) n
  | turn (x : Nat) (y : Int) (t u : List Nat) (n : Nat) : ofM l x = some y → RuneL l t u n → RuneL l (x :: t) (fixN y :: u) (n + 1)
theorem chars_behind (a t : ByteArray) : (chars (a ++ t) a.size).map (·.2) = (chars t 0).map (·.2) := by
  have := chars_right a t t.size 0 (by omega)
  rw [Nat.add_zero] at this
  rw [this, List.map_map]
  rfl
theorem chars_enc (x : Nat) (hx : scalarB x = true) (t : ByteArray) : (chars (Utf8.encode x ++ t) 0).map (·.2) = x :: (chars t 0).map (·.2) := by
  obtain ⟨h1, h2⟩ := dec_enc x hx t
  rw [chars_step _ 0 (by rw [ByteArray.size_append]; omega), h1]
  simp only [Nat.zero_add, List.map_cons]
  rw [chars_behind]
theorem chars_wrong (b t : ByteArray) (hb : b.size = 1) (hd : Utf8.decode (b ++ t) 0 = (65533, 1)) : (chars (b ++ t) 0).map (·.2) = 65533 :: (chars t 0).map (·.2) := by
  rw [chars_step _ 0 (by rw [ByteArray.size_append]; omega), hd]
  simp only [Nat.zero_add, List.map_cons]
  rw [← hb, chars_behind]
theorem sim_runes {l : List MirD} {t u : ByteArray} {n : Nat} (h : SimL l t u n) : RuneL l ((chars t 0).map (·.2)) ((chars u 0).map (·.2)) n := by
  induction h with
  | nil => rw [chars_end _ _ (by simp)]; exact .nil
  | stay x t u n hx ho h ih => rw [chars_enc x hx, chars_enc x hx]; exact .stay _ _ _ _ ih
  | turn x y t u n hx ho h ih => rw [chars_enc x hx, encode_fix y, chars_enc (fixN y) (fix_scalar y)]; exact .turn _ _ _ _ _ ho ih
  | wrong b t u n hb hd h ih =>
    have hd' : Utf8.decode (b ++ u) 0 = (65533, 1) := by rw [← sim_dec h b 0 (by omega)]; exact hd
    rw [chars_wrong b t hb hd, chars_wrong b u hb hd']
    exact .stay _ _ _ _ ih
theorem runeL_len {l : List MirD} {t u : List Nat} {n : Nat} (h : RuneL l t u n) : t.length = u.length := by
  induction h with
  | nil => rfl
  | stay x t u n h ih => simp [ih]
  | turn x y t u n ho h ih => simp [ih]
end Go.Proofs.YtnabbahdmajfpaaGreatDoor

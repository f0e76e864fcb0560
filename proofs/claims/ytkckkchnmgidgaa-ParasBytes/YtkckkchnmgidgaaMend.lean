/-
  Mend of package utf; plain facts on texts that are made of characters, and on texts whose bytes are all right.
-/
import Derived.Test.YtkckkchnmgidgaaEnc
import Derived.Test.YtkckkchnmgidgaaCopy
namespace Go.Proofs.Ytkckkchnmgidgaa
open Go.RowKit Go.PlainAid Go.Lib

/-- what a number stands for: itself, if it is a character, else FFFD -/
def fixN (z : Int) : Nat := if scalarB z then z.toNat else 65533
theorem fix_scalar (z : Int) : scalarB (fixN z : Nat) = true := by
  unfold fixN
  split
  · rename_i h
    have h0 : 0 ≤ z := by unfold scalarB at h; simp at h; omega
    rw [Int.toNat_of_nonneg h0]; exact h
  · decide
theorem fix_self (x : Nat) (h : scalarB (x : Int) = true) : fixN (x : Int) = x := by
  unfold fixN; rw [if_pos h]; rfl
theorem encode_fix (z : Int) : Utf8.encode z = Utf8.encode ((fixN z : Nat) : Int) := by
  have hv : Utf8.valid z = scalarB z := by rw [Bool.eq_iff_iff]; unfold Utf8.valid scalarB halfB; simp; omega
  have hc : (if Utf8.valid z = true then z.toNat else Utf8.runeError) = fixN z := by rw [hv]; rfl
  have hc' : (if Utf8.valid ((fixN z : Nat) : Int) = true then ((fixN z : Nat) : Int).toNat else Utf8.runeError) = fixN z := by rw [enc_valid _ (fix_scalar z)]; rfl
  unfold Utf8.encode
  rw [hc, hc']

theorem foldl_runes (zs : List Int) : ∀ s : ByteArray, zs.foldl (fun r n => r ++ Utf8.encode n) s = s ++ runesBytes zs := by
  induction zs with
  | nil => intro s; simp [runesBytes]
  | cons z zs ih =>
    intro s
    have h1 := ih (s ++ Utf8.encode z)
    have h2 := ih (ByteArray.empty ++ Utf8.encode z)
    simp only [List.foldl_cons, runesBytes] at *
    rw [h1, h2]
    simp [ByteArray.append_assoc]
theorem runesBytes_cons (z : Int) (zs : List Int) : runesBytes (z :: zs) = Utf8.encode z ++ runesBytes zs := by
  have := foldl_runes zs (ByteArray.empty ++ Utf8.encode z)
  unfold runesBytes at *
  rw [List.foldl_cons, this]; simp

/-- whether the byte at i is right -/
theorem why_iff (s : ByteArray) (i : Nat) (hi : i < s.size) : whyN (s.extract i s.size) = 0 ↔ Utf8.decode s i ≠ (65533, 1) := by
  rcases dec_why s i hi with ⟨h0, x, n, h1, _, h3, _⟩ | ⟨h0, h1⟩
  · refine ⟨fun _ e => ?_, fun _ => h0⟩
    rw [h1] at e
    obtain ⟨rfl, rfl⟩ : x = 65533 ∧ n = 1 := by simpa using e
    exact absurd h3 (by decide)
  · exact ⟨fun e => absurd e h0, fun e => absurd h1 e⟩

theorem chars_lt (s : ByteArray) : ∀ (k i : Nat), s.size - i ≤ k → ∀ j ∈ (chars s i).map (·.1), j < s.size := by
  intro k
  induction k with
  | zero => intro i h j hj; rw [chars_end s i (by omega)] at hj; simp at hj
  | succ k ih =>
    intro i h j hj
    by_cases hi : i < s.size
    · have hb := dec_bounds s i hi
      rw [chars_step s i hi] at hj
      rcases List.mem_cons.1 hj with e | e
      · have e' : j = i := e
        omega
      · exact ih _ (by omega) j e
    · rw [chars_end s i hi] at hj; simp at hj
theorem places_lt (s : ByteArray) : ∀ j ∈ places s, j < s.size := chars_lt s s.size 0 (by omega)

/-- the characters of a text of characters -/
theorem chars_runes (zs : List Int) : (chars (runesBytes zs) 0).map (·.2) = zs.map fixN ∧ ∀ i ∈ places (runesBytes zs), Utf8.decode (runesBytes zs) i ≠ (65533, 1) := by
  induction zs with
  | nil =>
    have : chars (runesBytes []) 0 = [] := chars_end _ _ (by simp [runesBytes])
    exact ⟨by rw [this]; rfl, by unfold places; rw [this]; simp⟩
  | cons z zs ih =>
    rw [runesBytes_cons, encode_fix]
    have hsc := fix_scalar z
    obtain ⟨hd, hp⟩ := dec_enc (fixN z) hsc (runesBytes zs)
    generalize hx : fixN z = x at *
    generalize ht : runesBytes zs = t at *
    have hlt : 0 < (Utf8.encode (x : Int) ++ t).size := by rw [ByteArray.size_append]; omega
    have hst := chars_step (Utf8.encode (x : Int) ++ t) 0 hlt
    have hr := chars_right (Utf8.encode (x : Int)) t t.size 0 (by omega)
    rw [Nat.add_zero] at hr
    rw [hd] at hst
    simp only [Nat.zero_add] at hst
    rw [hr] at hst
    refine ⟨?_, ?_⟩
    · rw [hst, List.map_cons, List.map_cons, hx, ← ih.1, List.map_map]
      rfl
    · unfold places
      rw [hst]
      intro i hi
      rcases List.mem_cons.1 hi with e | e
      · have e' : i = 0 := e
        subst e'
        rw [hd]
        intro e2
        obtain ⟨rfl, h2⟩ : x = 65533 ∧ (Utf8.encode (x : Int)).size = 1 := by simpa using e2
        exact absurd h2 (by decide +kernel)
      · obtain ⟨p, hp1, rfl⟩ := List.mem_map.1 e
        obtain ⟨q, hq, rfl⟩ := List.mem_map.1 hp1
        have hq1 : q.1 ∈ places t := List.mem_map.2 ⟨q, hq, rfl⟩
        show Utf8.decode (Utf8.encode (x : Int) ++ t) ((Utf8.encode (x : Int)).size + q.1) ≠ _
        rw [dec_right _ t q.1 (places_lt t _ hq1)]
        exact ih.2 _ hq1

/-- the runes from i on, as numbers -/
abbrev nums (s : ByteArray) (i : Nat) : List Int := (chars s i).map fun p => ((p.2 : Nat) : Int)

theorem extract_split (s : ByteArray) (i n : Nat) (h : i + n ≤ s.size) : s.extract i s.size = s.extract i (i + n) ++ s.extract (i + n) s.size := by
  refine bytes_ext ?_ (fun k hk => ?_)
  · simp [ByteArray.size_extract]; omega
  · have hk' : k < s.size - i := by simpa [ByteArray.size_extract] using hk
    have e1 : (s.extract i (i + n)).size = n := by simp [ByteArray.size_extract]; omega
    rw [bN_append, e1]
    have hx : ∀ a b j, a + j < b → b ≤ s.size → bN (s.extract a b) j = bN s (a + j) := by
      intro a b j h1 h2
      unfold bN
      rw [get_in _ _ (by simp [ByteArray.size_extract]; omega), get_in s (a + j) (by omega)]
      simp [ByteArray.getElem_extract]
    split
    · rw [hx _ _ _ (by omega) (by omega), hx _ _ _ (by omega) (by omega)]
    · rw [hx _ _ _ (by omega) (by omega), hx _ _ _ (by omega) (by omega)]
      congr 1; omega

/-- where no byte is wrong, writing what was read gives the text -/
theorem rebuild (s : ByteArray) (h : ∀ i ∈ places s, Utf8.decode s i ≠ (65533, 1)) :
    ∀ (k i : Nat), s.size - i ≤ k → i ≤ s.size → (∀ j ∈ (chars s i).map (·.1), j ∈ places s) → runesBytes (nums s i) = s.extract i s.size := by
  intro k
  induction k with
  | zero =>
    intro i h1 h2 _
    obtain rfl : i = s.size := by omega
    unfold nums
    rw [chars_end s s.size (by omega)]
    refine (bytes_ext ?_ (fun k hk => ?_))
    · simp [runesBytes]
    · simp [runesBytes] at hk
  | succ k ih =>
    intro i h1 h2 hm
    by_cases hi : i < s.size
    · have hst := chars_step s i hi
      have hni := h i (hm i (by rw [hst]; simp))
      rcases dec_why s i hi with ⟨_, x, n, g1, g2, g3, g4⟩ | ⟨_, g1⟩
      · have hb := dec_bounds s i hi
        rw [g1] at hst hb
        have hn1 : 1 ≤ n := hb.1
        have hre := ih (i + n) (by omega) (by omega) (fun j hj => hm j (by rw [hst]; exact List.mem_cons_of_mem _ hj))
        unfold nums at *
        rw [hst, List.map_cons, runesBytes_cons, hre, extract_split s i n g4, enc_dec s i x n hi g1 g2 g3 g4]
      · exact absurd g1 hni
    · obtain rfl : i = s.size := by omega
      unfold nums
      rw [chars_end s s.size (by omega)]
      refine (bytes_ext ?_ (fun k hk => ?_))
      · simp [runesBytes]
      · simp [runesBytes] at hk

/-- the text with FFFD in the place of each wrong byte -/
abbrev mendB (s : ByteArray) : ByteArray := runesBytes (nums s 0)
theorem mend_right (s : ByteArray) (h : ∀ i ∈ places s, Utf8.decode s i ≠ (65533, 1)) : mendB s = s := by
  have := rebuild s h s.size 0 (by omega) (by omega) (fun _ hj => hj)
  show runesBytes (nums s 0) = s
  rw [this]; simp
theorem chars_scalar (s : ByteArray) : ∀ (k i : Nat), s.size - i ≤ k → ∀ p ∈ chars s i, scalarB ((p.2 : Nat) : Int) = true := by
  intro k
  induction k with
  | zero => intro i h p hp; rw [chars_end s i (by omega)] at hp; simp at hp
  | succ k ih =>
    intro i h p hp
    by_cases hi : i < s.size
    · have hb := dec_bounds s i hi
      rw [chars_step s i hi] at hp
      rcases List.mem_cons.1 hp with e | e
      · subst e; exact dec_scalar s i hi
      · exact ih _ (by omega) p e
    · rw [chars_end s i hi] at hp; simp at hp
/-- the mended text stands for the same -/
theorem mend_chars (s : ByteArray) : (chars (mendB s) 0).map (·.2) = (chars s 0).map (·.2) ∧ ∀ i ∈ places (mendB s), Utf8.decode (mendB s) i ≠ (65533, 1) := by
  have h := chars_runes (nums s 0)
  refine ⟨?_, h.2⟩
  rw [h.1]
  unfold nums
  rw [List.map_map]
  refine List.map_congr_left (fun p hp => ?_)
  exact fix_self p.2 (chars_scalar s s.size 0 (by omega) p hp)
theorem mendB_size (s : ByteArray) : (mendB s).size ≤ 4 * s.size := by
  have h1 := runesBytes_size_le (nums s 0)
  have h2 := chars_length s 0
  have h3 : (nums s 0).length = (chars s 0).length := List.length_map _
  show (runesBytes (nums s 0)).size ≤ _
  omega

end Go.Proofs.Ytkckkchnmgidgaa

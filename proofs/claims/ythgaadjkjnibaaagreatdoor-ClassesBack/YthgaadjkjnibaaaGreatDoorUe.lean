/-
  These texts, one behind the other: Enc, Mend, RefA, RefB.
-/
import Derived.Test.YthgaadjkjnibaaaGreatDoorUb
import Derived.Laws.Cover4
import Derived.Deep.QuietTactic
import Derived.BigQuiet
/-
  Plain facts: the bytes of a character are read as that character; and what is read right is written with the same bytes.
-/
namespace Go.Proofs.YthgaadjkjnibaaaGreatDoor
open Go.RowKit Go.PlainAid Go.Lib

theorem bytes_ext {s t : ByteArray} (h : s.size = t.size) (hb : ∀ k, k < s.size → bN s k = bN t k) : s = t := by
  apply ByteArray.ext
  apply Array.ext
  · exact h
  · intro i h1 h2
    have := hb i h1
    unfold bN at this
    rw [get_in s i h1, get_in t i h2] at this
    exact UInt8.toNat_inj.1 this

theorem enc_valid (x : Nat) (h : scalarB x = true) : Utf8.valid (x : Int) = true := by
  rw [Bool.eq_iff_iff] at *
  unfold scalarB halfB at h
  unfold Utf8.valid
  simp at h ⊢; omega

theorem scalar_bounds (x : Nat) (h : scalarB x = true) : x ≤ 1114111 ∧ ¬ (55296 ≤ x ∧ x < 57344) := by
  unfold scalarB halfB at h; simp at h; omega

/-- the bytes of a character -/
theorem enc_bytes (x : Nat) (h : scalarB x = true) :
    (x < 128 ∧ (Utf8.encode x).size = 1 ∧ bN (Utf8.encode x) 0 = x) ∨
    (128 ≤ x ∧ x < 2048 ∧ (Utf8.encode x).size = 2 ∧ bN (Utf8.encode x) 0 = 192 + x / 64 ∧ bN (Utf8.encode x) 1 = 128 + x % 64) ∨
    (2048 ≤ x ∧ x < 65536 ∧ (Utf8.encode x).size = 3 ∧ bN (Utf8.encode x) 0 = 224 + x / 4096 ∧ bN (Utf8.encode x) 1 = 128 + x / 64 % 64 ∧ bN (Utf8.encode x) 2 = 128 + x % 64) ∨
    (65536 ≤ x ∧ x ≤ 1114111 ∧ (Utf8.encode x).size = 4 ∧ bN (Utf8.encode x) 0 = 240 + x / 262144 ∧ bN (Utf8.encode x) 1 = 128 + x / 4096 % 64 ∧ bN (Utf8.encode x) 2 = 128 + x / 64 % 64 ∧ bN (Utf8.encode x) 3 = 128 + x % 64) := by
  have hv := enc_valid x h
  have hb := scalar_bounds x h
  have hc : (if Utf8.valid (x : Int) = true then (x : Int).toNat else Utf8.runeError) = x := by rw [hv]; rfl
  have hm : ∀ n, n < 256 → (UInt8.ofNat n).toNat = n := fun n hn => by rw [UInt8.toNat_ofNat']; exact Nat.mod_eq_of_lt hn
  by_cases c1 : x < 128
  · left
    have e : Utf8.encode (x : Int) = ⟨#[UInt8.ofNat x]⟩ := by unfold Utf8.encode; rw [hc]; simp only []; rw [if_pos c1]
    rw [e]
    exact ⟨c1, rfl, hm x (by omega)⟩
  by_cases c2 : x < 2048
  · right; left
    have e : Utf8.encode (x : Int) = ⟨#[UInt8.ofNat (192 + x / 64), UInt8.ofNat (128 + x % 64)]⟩ := by unfold Utf8.encode; rw [hc]; simp only []; rw [if_neg c1, if_pos c2]
    rw [e]
    exact ⟨by omega, c2, rfl, hm _ (by omega), hm _ (by omega)⟩
  by_cases c3 : x < 65536
  · right; right; left
    have e : Utf8.encode (x : Int) = ⟨#[UInt8.ofNat (224 + x / 4096), UInt8.ofNat (128 + x / 64 % 64), UInt8.ofNat (128 + x % 64)]⟩ := by unfold Utf8.encode; rw [hc]; simp only []; rw [if_neg c1, if_neg c2, if_pos c3]
    rw [e]
    exact ⟨by omega, c3, rfl, hm _ (by omega), hm _ (by omega), hm _ (by omega)⟩
  · right; right; right
    have e : Utf8.encode (x : Int) = ⟨#[UInt8.ofNat (240 + x / 262144), UInt8.ofNat (128 + x / 4096 % 64), UInt8.ofNat (128 + x / 64 % 64), UInt8.ofNat (128 + x % 64)]⟩ := by unfold Utf8.encode; rw [hc]; simp only []; rw [if_neg c1, if_neg c2, if_neg c3]
    rw [e]
    exact ⟨by omega, hb.1, rfl, hm _ (by omega), hm _ (by omega), hm _ (by omega), hm _ (by omega)⟩

/-- a character's bytes, whatever follows, are read as it -/
theorem dec_enc (x : Nat) (h : scalarB x = true) (t : ByteArray) : Utf8.decode (Utf8.encode x ++ t) 0 = (x, (Utf8.encode x).size) ∧ 1 ≤ (Utf8.encode x).size := by
  have hb := scalar_bounds x h
  have hs : (Utf8.encode (x : Int) ++ t).size = (Utf8.encode (x : Int)).size + t.size := ByteArray.size_append
  have ek : ∀ k, k < (Utf8.encode (x : Int)).size → bN (Utf8.encode (x : Int) ++ t) (0 + k) = bN (Utf8.encode (x : Int)) k := fun k hk => by rw [Nat.zero_add, bN_append, if_pos hk]
  rcases enc_bytes x h with ⟨c, e, e0⟩ | ⟨c, c', e, e0, e1⟩ | ⟨c, c', e, e0, e1, e2⟩ | ⟨c, c', e, e0, e1, e2, e3⟩
  · refine ⟨?_, by omega⟩
    rw [decode_decB _ _ (by omega), show bN (Utf8.encode (x : Int) ++ t) 0 = x from (ek 0 (by omega)).trans e0, e]
    unfold decB; rw [if_pos c]
  · refine ⟨?_, by omega⟩
    rw [decode_decB _ _ (by omega), show bN (Utf8.encode (x : Int) ++ t) 0 = _ from (ek 0 (by omega)).trans e0, (ek 1 (by omega)).trans e1, e]
    have ev : (192 + x / 64) % 32 * 64 + (128 + x % 64) % 64 = x := by omega
    unfold decB
    rw [if_neg (by omega), if_pos (by omega), ev, if_pos (by omega)]
  · refine ⟨?_, by omega⟩
    rw [decode_decB _ _ (by omega), show bN (Utf8.encode (x : Int) ++ t) 0 = _ from (ek 0 (by omega)).trans e0, (ek 1 (by omega)).trans e1, (ek 2 (by omega)).trans e2, e]
    have ev : (224 + x / 4096) % 16 * 4096 + (128 + x / 64 % 64) % 64 * 64 + (128 + x % 64) % 64 = x := by omega
    unfold decB
    rw [if_neg (by omega), if_neg (by omega), if_pos (by omega), ev, if_pos (by omega)]
  · refine ⟨?_, by omega⟩
    rw [decode_decB _ _ (by omega), show bN (Utf8.encode (x : Int) ++ t) 0 = _ from (ek 0 (by omega)).trans e0, (ek 1 (by omega)).trans e1, (ek 2 (by omega)).trans e2, (ek 3 (by omega)).trans e3, e]
    have ev : (240 + x / 262144) % 8 * 262144 + (128 + x / 4096 % 64) % 64 * 4096 + (128 + x / 64 % 64) % 64 * 64 + (128 + x % 64) % 64 = x := by omega
    unfold decB
    rw [if_neg (by omega), if_neg (by omega), if_neg (by omega), if_pos (by omega), ev, if_pos (by omega)]

/-- what is read right has the bytes of its character -/
theorem enc_dec (s : ByteArray) (i x n : Nat) (hi : i < s.size) (h1 : Utf8.decode s i = (x, n)) (h2 : scalarB x = true) (h3 : bytesN x = n) (h4 : i + n ≤ s.size) : s.extract i (i + n) = Utf8.encode x := by
  have hw := right_wide s i x n hi h1 h3
  rw [decode_decB s i hi] at h1
  have hb := scalar_bounds x h2
  have hbx : ∀ k, k < n → bN (s.extract i (i + n)) k = bN s (i + k) := by
    intro k hk
    unfold bN
    rw [get_in _ _ (by simp [ByteArray.size_extract]; omega), get_in s (i + k) (by omega)]
    simp [ByteArray.getElem_extract]
  have hsz : (s.extract i (i + n)).size = n := by simp [ByteArray.size_extract]; omega
  have l0 := bN_lt s i; have l1 := bN_lt s (i + 1); have l2 := bN_lt s (i + 2); have l3 := bN_lt s (i + 3)
  have hn : (n = 1 ∧ x < 128) ∨ (n = 2 ∧ 128 ≤ x ∧ x < 2048) ∨ (n = 3 ∧ 2048 ≤ x ∧ x < 65536) ∨ (n = 4 ∧ 65536 ≤ x) := by
    unfold bytesN at h3; revert h3; (repeat' split) <;> omega
  have key : bN s i = bN (Utf8.encode x) 0 ∧ (1 < n → bN s (i + 1) = bN (Utf8.encode x) 1) ∧ (2 < n → bN s (i + 2) = bN (Utf8.encode x) 2) ∧ (3 < n → bN s (i + 3) = bN (Utf8.encode x) 3) ∧ (Utf8.encode x).size = n := by
    unfold decB at h1
    by_cases c0 : bN s i < 128
    · rw [if_pos c0] at h1
      obtain ⟨rfl, rfl⟩ : bN s i = x ∧ 1 = n := by simpa using h1
      rcases enc_bytes _ h2 with ⟨_, e, e0⟩ | ⟨c, _⟩ | ⟨c, _⟩ | ⟨c, _⟩
      · exact ⟨e0.symm, fun h => by omega, fun h => by omega, fun h => by omega, e⟩
      all_goals omega
    rw [if_neg c0] at h1
    have hn2 : 2 ≤ n := by omega
    by_cases c1 : bN s i / 32 = 6 ∧ (1 < s.size - i ∧ bN s (i + 1) / 64 = 2)
    · rw [if_pos c1] at h1
      split at h1
      · obtain ⟨hx, rfl⟩ : _ = x ∧ 2 = n := by simpa using h1
        rcases enc_bytes _ h2 with ⟨c, _⟩ | ⟨_, _, e, e0, e1⟩ | ⟨c, _⟩ | ⟨c, _⟩
        · omega
        · exact ⟨by rw [e0]; omega, fun h => by rw [e1]; omega, fun h => by omega, fun h => by omega, e⟩
        all_goals omega
      · obtain ⟨_, rfl⟩ : _ = x ∧ 1 = n := by simpa using h1
        omega
    rw [if_neg c1] at h1
    by_cases c2 : bN s i / 16 = 14 ∧ (1 < s.size - i ∧ bN s (i + 1) / 64 = 2) ∧ (2 < s.size - i ∧ bN s (i + 2) / 64 = 2)
    · rw [if_pos c2] at h1
      split at h1
      · obtain ⟨hx, rfl⟩ : _ = x ∧ 3 = n := by simpa using h1
        rcases enc_bytes _ h2 with ⟨c, _⟩ | ⟨_, c, _⟩ | ⟨_, _, e, e0, e1, e2⟩ | ⟨c, _⟩
        · omega
        · omega
        · exact ⟨by rw [e0]; omega, fun h => by rw [e1]; omega, fun h => by rw [e2]; omega, fun h => by omega, e⟩
        · omega
      · obtain ⟨_, rfl⟩ : _ = x ∧ 1 = n := by simpa using h1
        omega
    rw [if_neg c2] at h1
    by_cases c3 : bN s i / 8 = 30 ∧ (1 < s.size - i ∧ bN s (i + 1) / 64 = 2) ∧ (2 < s.size - i ∧ bN s (i + 2) / 64 = 2) ∧ (3 < s.size - i ∧ bN s (i + 3) / 64 = 2)
    · rw [if_pos c3] at h1
      split at h1
      · obtain ⟨hx, rfl⟩ : _ = x ∧ 4 = n := by simpa using h1
        rcases enc_bytes _ h2 with ⟨c, _⟩ | ⟨_, c, _⟩ | ⟨_, c, _⟩ | ⟨_, _, e, e0, e1, e2, e3⟩
        · omega
        · omega
        · omega
        · exact ⟨by rw [e0]; omega, fun h => by rw [e1]; omega, fun h => by rw [e2]; omega, fun h => by rw [e3]; omega, e⟩
      · obtain ⟨_, rfl⟩ : _ = x ∧ 1 = n := by simpa using h1
        omega
    rw [if_neg c3] at h1
    obtain ⟨_, rfl⟩ : _ = x ∧ 1 = n := by simpa using h1
    omega
  obtain ⟨k0, k1, k2, k3, k4⟩ := key
  refine bytes_ext (by rw [hsz, k4]) (fun k hk => ?_)
  rw [hsz] at hk
  rw [hbx k hk]
  have : k = 0 ∨ k = 1 ∨ k = 2 ∨ k = 3 := by omega
  rcases this with rfl | rfl | rfl | rfl
  · exact k0
  · exact k1 hk
  · exact k2 hk
  · exact k3 hk

end Go.Proofs.YthgaadjkjnibaaaGreatDoor
/-
  Mend of package utf; plain facts on texts that are made of characters, and on texts whose bytes are all right.
-/
namespace Go.Proofs.YthgaadjkjnibaaaGreatDoor
open Go.RowKit Go.PlainAid Go.Lib

/-- what a number stands for: itself, if it is a character, else FFFD -/
def fixN (z : Int) : Nat := if scalarB z then z.toNat else 65533
theorem fix_scalar (z : Int) : scalarB (fixN z : Nat) = true := by
  unfold fixN
  split
  · rename_i h
    have h0 : 0 ≤ z := by unfold scalarB at h; simp at h; omega
    rw [Int.toNat_of_nonneg h0]; exact h
  · decide
theorem fix_self (x : Nat) (h : scalarB (x : Int) = true) : fixN (x : Int) = x := by
  unfold fixN; rw [if_pos h]; rfl
theorem encode_fix (z : Int) : Utf8.encode z = Utf8.encode ((fixN z : Nat) : Int) := by
  have hv : Utf8.valid z = scalarB z := by rw [Bool.eq_iff_iff]; unfold Utf8.valid scalarB halfB; simp; omega
  have hc : (if Utf8.valid z = true then z.toNat else Utf8.runeError) = fixN z := by rw [hv]; rfl
  have hc' : (if Utf8.valid ((fixN z : Nat) : Int) = true then ((fixN z : Nat) : Int).toNat else Utf8.runeError) = fixN z := by rw [enc_valid _ (fix_scalar z)]; rfl
  unfold Utf8.encode
  rw [hc, hc']

theorem foldl_runes (zs : List Int) : ∀ s : ByteArray, zs.foldl (fun r n => r ++ Utf8.encode n) s = s ++ runesBytes zs := by
  induction zs with
  | nil => intro s; simp [runesBytes]
  | cons z zs ih =>
    intro s
    have h1 := ih (s ++ Utf8.encode z)
    have h2 := ih (ByteArray.empty ++ Utf8.encode z)
    simp only [List.foldl_cons, runesBytes] at *
    rw [h1, h2]
    simp [ByteArray.append_assoc]
theorem runesBytes_cons (z : Int) (zs : List Int) : runesBytes (z :: zs) = Utf8.encode z ++ runesBytes zs := by
  have := foldl_runes zs (ByteArray.empty ++ Utf8.encode z)
  unfold runesBytes at *
  rw [List.foldl_cons, this]; simp

/-- whether the byte at i is right -/
theorem why_iff (s : ByteArray) (i : Nat) (hi : i < s.size) : whyN (s.extract i s.size) = 0 ↔ Utf8.decode s i ≠ (65533, 1) := by
  rcases dec_why s i hi with ⟨h0, x, n, h1, _, h3, _⟩ | ⟨h0, h1⟩
  · refine ⟨fun _ e => ?_, fun _ => h0⟩
    rw [h1] at e
    obtain ⟨rfl, rfl⟩ : x = 65533 ∧ n = 1 := by simpa using e
    exact absurd h3 (by decide)
  · exact ⟨fun e => absurd e h0, fun e => absurd h1 e⟩

theorem chars_lt (s : ByteArray) : ∀ (k i : Nat), s.size - i ≤ k → ∀ j ∈ (chars s i).map (·.1), j < s.size := by
  intro k
  induction k with
  | zero => intro i h j hj; rw [chars_end s i (by omega)] at hj; simp at hj
  | succ k ih =>
    intro i h j hj
    by_cases hi : i < s.size
    · have hb := dec_bounds s i hi
      rw [chars_step s i hi] at hj
      rcases List.mem_cons.1 hj with e | e
      · have e' : j = i := e
        omega
      · exact ih _ (by omega) j e
    · rw [chars_end s i hi] at hj; simp at hj
theorem places_lt (s : ByteArray) : ∀ j ∈ places s, j < s.size := chars_lt s s.size 0 (by omega)

/-- the characters of a text of characters -/
theorem chars_runes (zs : List Int) : (chars (runesBytes zs) 0).map (·.2) = zs.map fixN ∧ ∀ i ∈ places (runesBytes zs), Utf8.decode (runesBytes zs) i ≠ (65533, 1) := by
  induction zs with
  | nil =>
    have : chars (runesBytes []) 0 = [] := chars_end _ _ (by simp [runesBytes])
    exact ⟨by rw [this]; rfl, by unfold places; rw [this]; simp⟩
  | cons z zs ih =>
    rw [runesBytes_cons, encode_fix]
    have hsc := fix_scalar z
    obtain ⟨hd, hp⟩ := dec_enc (fixN z) hsc (runesBytes zs)
    generalize hx : fixN z = x at *
    generalize ht : runesBytes zs = t at *
    have hlt : 0 < (Utf8.encode (x : Int) ++ t).size := by rw [ByteArray.size_append]; omega
    have hst := chars_step (Utf8.encode (x : Int) ++ t) 0 hlt
    have hr := chars_right (Utf8.encode (x : Int)) t t.size 0 (by omega)
    rw [Nat.add_zero] at hr
    rw [hd] at hst
    simp only [Nat.zero_add] at hst
    rw [hr] at hst
    refine ⟨?_, ?_⟩
    · rw [hst, List.map_cons, List.map_cons, hx, ← ih.1, List.map_map]
      rfl
    · unfold places
      rw [hst]
      intro i hi
      rcases List.mem_cons.1 hi with e | e
      · have e' : i = 0 := e
        subst e'
        rw [hd]
        intro e2
        obtain ⟨rfl, h2⟩ : x = 65533 ∧ (Utf8.encode (x : Int)).size = 1 := by simpa using e2
        exact absurd h2 (by decide +kernel)
      · obtain ⟨p, hp1, rfl⟩ := List.mem_map.1 e
        obtain ⟨q, hq, rfl⟩ := List.mem_map.1 hp1
        have hq1 : q.1 ∈ places t := List.mem_map.2 ⟨q, hq, rfl⟩
        show Utf8.decode (Utf8.encode (x : Int) ++ t) ((Utf8.encode (x : Int)).size + q.1) ≠ _
        rw [dec_right _ t q.1 (places_lt t _ hq1)]
        exact ih.2 _ hq1

/-- the runes from i on, as numbers -/
abbrev nums (s : ByteArray) (i : Nat) : List Int := (chars s i).map fun p => ((p.2 : Nat) : Int)

theorem extract_split (s : ByteArray) (i n : Nat) (h : i + n ≤ s.size) : s.extract i s.size = s.extract i (i + n) ++ s.extract (i + n) s.size := by
  refine bytes_ext ?_ (fun k hk => ?_)
  · simp [ByteArray.size_extract]; omega
  · have hk' : k < s.size - i := by simpa [ByteArray.size_extract] using hk
    have e1 : (s.extract i (i + n)).size = n := by simp [ByteArray.size_extract]; omega
    rw [bN_append, e1]
    have hx : ∀ a b j, a + j < b → b ≤ s.size → bN (s.extract a b) j = bN s (a + j) := by
      intro a b j h1 h2
      unfold bN
      rw [get_in _ _ (by simp [ByteArray.size_extract]; omega), get_in s (a + j) (by omega)]
      simp [ByteArray.getElem_extract]
    split
    · rw [hx _ _ _ (by omega) (by omega), hx _ _ _ (by omega) (by omega)]
    · rw [hx _ _ _ (by omega) (by omega), hx _ _ _ (by omega) (by omega)]
      congr 1; omega

/-- where no byte is wrong, writing what was read gives the text -/
theorem rebuild (s : ByteArray) (h : ∀ i ∈ places s, Utf8.decode s i ≠ (65533, 1)) :
    ∀ (k i : Nat), s.size - i ≤ k → i ≤ s.size → (∀ j ∈ (chars s i).map (·.1), j ∈ places s) → runesBytes (nums s i) = s.extract i s.size := by
  intro k
  induction k with
  | zero =>
    intro i h1 h2 _
    obtain rfl : i = s.size := by omega
    unfold nums
    rw [chars_end s s.size (by omega)]
    refine (bytes_ext ?_ (fun k hk => ?_))
    · simp [runesBytes]
    · simp [runesBytes] at hk
  | succ k ih =>
    intro i h1 h2 hm
    by_cases hi : i < s.size
    · have hst := chars_step s i hi
      have hni := h i (hm i (by rw [hst]; simp))
      rcases dec_why s i hi with ⟨_, x, n, g1, g2, g3, g4⟩ | ⟨_, g1⟩
      · have hb := dec_bounds s i hi
        rw [g1] at hst hb
        have hn1 : 1 ≤ n := hb.1
        have hre := ih (i + n) (by omega) (by omega) (fun j hj => hm j (by rw [hst]; exact List.mem_cons_of_mem _ hj))
        unfold nums at *
        rw [hst, List.map_cons, runesBytes_cons, hre, extract_split s i n g4, enc_dec s i x n hi g1 g2 g3 g4]
      · exact absurd g1 hni
    · obtain rfl : i = s.size := by omega
      unfold nums
      rw [chars_end s s.size (by omega)]
      refine (bytes_ext ?_ (fun k hk => ?_))
      · simp [runesBytes]
      · simp [runesBytes] at hk

/-- the text with FFFD in the place of each wrong byte -/
abbrev mendB (s : ByteArray) : ByteArray := runesBytes (nums s 0)
theorem mend_right (s : ByteArray) (h : ∀ i ∈ places s, Utf8.decode s i ≠ (65533, 1)) : mendB s = s := by
  have := rebuild s h s.size 0 (by omega) (by omega) (fun _ hj => hj)
  show runesBytes (nums s 0) = s
  rw [this]; simp
theorem chars_scalar (s : ByteArray) : ∀ (k i : Nat), s.size - i ≤ k → ∀ p ∈ chars s i, scalarB ((p.2 : Nat) : Int) = true := by
  intro k
  induction k with
  | zero => intro i h p hp; rw [chars_end s i (by omega)] at hp; simp at hp
  | succ k ih =>
    intro i h p hp
    by_cases hi : i < s.size
    · have hb := dec_bounds s i hi
      rw [chars_step s i hi] at hp
      rcases List.mem_cons.1 hp with e | e
      · subst e; exact dec_scalar s i hi
      · exact ih _ (by omega) p e
    · rw [chars_end s i hi] at hp; simp at hp
/-- the mended text stands for the same -/
theorem mend_chars (s : ByteArray) : (chars (mendB s) 0).map (·.2) = (chars s 0).map (·.2) ∧ ∀ i ∈ places (mendB s), Utf8.decode (mendB s) i ≠ (65533, 1) := by
  have h := chars_runes (nums s 0)
  refine ⟨?_, h.2⟩
  rw [h.1]
  unfold nums
  rw [List.map_map]
  refine List.map_congr_left (fun p hp => ?_)
  exact fix_self p.2 (chars_scalar s s.size 0 (by omega) p hp)
theorem mendB_size (s : ByteArray) : (mendB s).size ≤ 4 * s.size := by
  have h1 := runesBytes_size_le (nums s 0)
  have h2 := chars_length s 0
  have h3 : (nums s 0).length = (chars s 0).length := List.length_map _
  show (runesBytes (nums s 0)).size ≤ _
  omega

end Go.Proofs.YthgaadjkjnibaaaGreatDoor
/-
  The document's answer for layer 1, its small functions: Scalar, Width, one, Sequence.
-/
namespace Go.Proofs.YthgaadjkjnibaaaGreatDoor
open Go.RowKit Go.PlainAid Go.Lib

/-- a text of one byte -/
abbrev byte1 (b : Int) : ByteArray := ⟨#[UInt8.ofNat b.toNat]⟩

theorem ret_str {a b : ByteArray} (h : a = b) : Ending.returned (.string a) = .returned (.string b) := by rw [h]
theorem encode_bad (r : Int) (h : Utf8.valid r = false) : Utf8.encode r = ⟨#[239, 191, 189]⟩ := by
  have e : (if Utf8.valid r = true then r.toNat else Utf8.runeError) = 65533 := by rw [h]; rfl
  unfold Utf8.encode
  rw [e]; rfl
theorem valid_scalar (r : Int) : Utf8.valid r = scalarB r := by
  rw [Bool.eq_iff_iff]; unfold Utf8.valid scalarB halfB; simp; omega

theorem below2 {a b c : World} (h : Below a.heap.size a b) (k : Below b.heap.size b c) : Below a.heap.size a c := h.trans (k.mono h.size)

end Go.Proofs.YthgaadjkjnibaaaGreatDoor
/-
  The document's answer for layer 1: Encode and Same over lists of runes.
-/
namespace Go.Proofs.YthgaadjkjnibaaaGreatDoor
open Go.RowKit Go.PlainAid Go.Lib

theorem runesBytes_snoc (l : List Int) (z : Int) : runesBytes (l ++ [z]) = runesBytes l ++ Utf8.encode z := by simp [runesBytes]
theorem take_snoc' (zs : List Int) (k : Nat) (h : k < zs.length) : zs.take (k + 1) = zs.take k ++ [zs.getD k 0] := by
  rw [List.take_succ_eq_append_getElem h]; simp [List.getD, List.getElem?_eq_getElem h]

end Go.Proofs.YthgaadjkjnibaaaGreatDoor

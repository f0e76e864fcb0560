/-
  The combining class, and what a character is made of.
-/
import Derived.Test.YthjnkagepooeiaaGreatDoorRwC
import Derived.Lib.SplitLaws
namespace Go.Proofs.YthjnkagepooeiaaGreatDoor
open Go.RowKit Go.PlainAid Go.Lib Go.PHexM
set_option linter.unusedVariables false
set_option linter.unusedSimpArgs false

theorem parseM_le (M : Nat) : ∀ (l : List UInt8) (acc u : Nat), acc ≤ M → parseUintM M acc l = .ok u → u ≤ M := by
  intro l
  induction l with
  | nil => intro acc u h e; simp [parseUintM] at e; omega
  | cons c l ih =>
    intro acc u h e
    unfold parseUintM at e
    split at e
    · split at e
      · cases e
      · split at e
        · cases e
        · exact ih _ _ (by omega) e
    · cases e
theorem parse8_le {l : List UInt8} {u : Nat} (h : parseUintB 8 l = .ok u) : u ≤ 255 := by
  unfold parseUintB at h
  split at h
  · cases h
  · exact parseM_le 255 l 0 u (by omega) h

theorem readCombining_any (b : Nat) (r : RowD) (f : List UInt8) (w : World) (h : RBox w b r) (hg : Glob w) (hf : f.length ≤ 1073741824) :
    Calls Tryz.prog 58 #[.pointer (some ⟨b, 0, none⟩), .string (S f)] w (ReadPost b r 3 f w) := by
  have hsz := S_size f
  have HB := hide h
  have HG := hide hg
  have HQ : Hid (∀ x, combP f = x → cellP 3 f r = match x with | some n => ({ r with comb := n }, 0) | none => (r, 64)) := fun x hx => by subst hx; rfl
  cases hp : parseUintB 8 f with
  | ok u =>
    have hu := parse8_le hp
    have HX : Hid (Calls Tryz.prog 85 #[.string (S f), .int .i64 10, .int .i64 8] w fun e w' => e = .returned (.tuple #[.int .u64 u, .nilIface]) ∧ Below w.heap.size w w') :=
      (Tryz.strconv_ParseUint_10_at8_ok (S f) (by omega) u hp w).mono fun e w' ⟨h1, h2⟩ => ⟨h1, by rcases h2 with rfl | rfl; exact Below.refl _ _; exact Lib.bytesWorld_below _ _ _⟩
    by_cases h254 : 254 < u
    · have h' : (254 : Int) < (u : Int) := by omega
      have HC : Hid (cellP 3 f r = (r, 64)) := unhide HQ none (by unfold combP; rw [hp]; simp; omega)
      clear h hg hp hsz h254 HQ hu
      go_enter Tryz.func58, Tryz.ntmps58
      go_wp2_with (go_at_call 85; refine (unhide HX).mono ?_; rintro e w1 ⟨rfl, hb⟩)
      go_ret
      exact readPost_of (unhide HC) ((unhide HB).below hb) (But.of_below hb)
    · have h' : ¬ (254 : Int) < (u : Int) := by omega
      have q8 : IntKind.u8.wrap (u : Int) = u := by rw [IntKind.wrap_u8]; omega
      have HF := hide (fun w (hg : Glob w) => fmtU_any u (by omega) w hg.tab)
      by_cases hd : decDigits u = f
      · have HC : Hid (cellP 3 f r = ({ r with comb := u }, 0)) := unhide HQ (some u) (by unfold combP; rw [hp]; simp [hd]; omega)
        rw [hd] at HF
        clear h hg hp hsz h254 HQ hu hd
        go_enter Tryz.func58, Tryz.ntmps58
        go_wp2_with (first | (go_at_call 85; refine (unhide HX).mono ?_; rintro e w1 ⟨rfl, hb⟩) | (go_at_call 86; refine (unhide HF w1 ((unhide HG).below hb)).mono ?_; rintro e w2 ⟨rfl, hb2⟩; have hb12 := hb.trans (hb2.mono hb.size); have hB1 := (unhide HB).below hb12; have c5 := hB1.cell (j := 5) rfl; have f5 := hB1.frozen 5; have HB1 := hide hB1; clear hB1))
        go_ret
        exact readPost_of (unhide HC) ((unhide HB1).set 5 _ rfl) ((But.of_below hb12).trans (But.set _))
      · have HC : Hid (cellP 3 f r = (r, 64)) := unhide HQ none (by unfold combP; rw [hp]; simp [hd])
        have hne : (decDigits u == f) = false := by simpa using hd
        clear h hg hp hsz h254 HQ hu hd
        generalize decDigits u = T at *
        go_enter Tryz.func58, Tryz.ntmps58
        go_wp2_with (first | (go_at_call 85; refine (unhide HX).mono ?_; rintro e w1 ⟨rfl, hb⟩) | (go_at_call 86; refine (unhide HF w1 ((unhide HG).below hb)).mono ?_; rintro e w2 ⟨rfl, hb2⟩; have hb12 := hb.trans (hb2.mono hb.size)))
        go_ret
        exact readPost_of (unhide HC) ((unhide HB).below hb12) (But.of_below hb12)
  | «syntax» =>
    obtain ⟨ev, h1, h2⟩ := hg.syn
    have HX := hide (Tryz.strconv_ParseUint_10_at8_syntax (S f) (by omega) hp ev w h1 h2)
    have HC : Hid (cellP 3 f r = (r, 64)) := unhide HQ none (by unfold combP; rw [hp])
    clear h hg hp hsz HQ h1 h2
    go_enter Tryz.func58, Tryz.ntmps58
    go_wp2_with (go_at_call 85; refine (unhide HX).mono ?_; rintro e w1 ⟨N, rfl, _, _, hb⟩)
    go_ret
    exact readPost_of (unhide HC) ((unhide HB).below hb) (But.of_below hb)
  | range =>
    obtain ⟨ev, h1, h2⟩ := hg.rng
    have HX := hide (Tryz.strconv_ParseUint_10_at8_range (S f) (by omega) hp ev w h1 h2)
    have HC : Hid (cellP 3 f r = (r, 64)) := unhide HQ none (by unfold combP; rw [hp])
    clear h hg hp hsz HQ h1 h2
    go_enter Tryz.func58, Tryz.ntmps58
    go_wp2_with (go_at_call 85; refine (unhide HX).mono ?_; rintro e w1 ⟨N, rfl, _, _, hb⟩)
    go_ret
    exact readPost_of (unhide HC) ((unhide HB).below hb) (But.of_below hb)

theorem isTag_any (s : ByteArray) (w : World) (hs : s.size ≤ 1073741824) :
    Calls Tryz.prog 90 #[.string s] w fun e w' => e = .returned (.bool (tagB s.data.toList)) ∧ w' = w := by
  have HP := hide (fun w => Tryz.strings_CutPrefix s ⟨#[60]⟩ w)
  cases hp : Lib.hasPrefix s.data.toList [60] with
  | false =>
    have HT : Hid (tagB s.data.toList = false) := by show _ = _; simp [tagB, hp]
    rw [show (⟨#[60]⟩ : ByteArray).data.toList = [60] from rfl] at HP
    simp only [hp] at HP
    clear hp
    go_enter Tryz.func90, Tryz.ntmps90
    go_wp2_with (go_at_call 97; refine (unhide HP _).mono ?_; rintro e w1 ⟨rfl, rfl⟩)
    go_ret
    exact ⟨ret_one (by rw [unhide HT]; rfl), rfl⟩
  | true =>
    have hT : tagB s.data.toList = Lib.hasSuffix (s.data.toList.drop 1) [62] := by simp [tagB, hp]
    have htp : Lib.trimPrefix s.data.toList [60] = s.data.toList.drop 1 := by simp [Lib.trimPrefix, hp]
    rw [show (⟨#[60]⟩ : ByteArray).data.toList = [60] from rfl] at HP
    simp only [hp, htp] at HP
    have HS := hide (fun w => Tryz.strings_HasSuffix ⟨(s.data.toList.drop 1).toArray⟩ ⟨#[62]⟩ w (by rw [show (⟨(s.data.toList.drop 1).toArray⟩ : ByteArray).size = _ from S_size _, List.length_drop, ← size_eq]; omega))
    obtain ⟨v, hv⟩ : ∃ v, tagB s.data.toList = v := ⟨_, rfl⟩
    have HT := hide hv
    have HS' : Hid (∀ w, Calls Tryz.prog 124 #[.string ⟨(s.data.toList.drop 1).toArray⟩, .string ⟨#[62]⟩] w fun e w' => e = .returned (.bool v) ∧ w' = w) := fun w => (unhide HS w).mono fun e w' ⟨h1, h2⟩ => ⟨by rw [h1, ← hv, hT], h2⟩
    clear hp hT htp hv HS
    generalize (s.data.toList.drop 1) = T at *
    go_enter Tryz.func90, Tryz.ntmps90
    go_wp2_with (first | (go_at_call 97; refine (unhide HP _).mono ?_; rintro e w1 ⟨rfl, rfl⟩) | (go_at_call 124; refine (unhide HS' _).mono ?_; rintro e w1 ⟨rfl, rfl⟩))
    go_ret
    exact ⟨ret_one (by rw [unhide HT]; rfl), rfl⟩
end Go.Proofs.YthjnkagepooeiaaGreatDoor

/-
  UtfBack: what is encoded is read back, what is read is encoded back, and the mended text is right: for every text and list of runes that hold together at most 1048576 values and letters.
-/
import Derived.Test.YtgffibonikcecabMend
import Derived.Test.YtgffibonikcecabBulk
import Derived.Deep.QuietTactic
import Derived.BigQuiet
import Derived.ProofKit
import Derived.OpenShut
import Derived.ShutString
import Derived.ChangeOld
import Derived.JoinedCond
namespace Go.Proofs.Ytgffibonikcecab.utfBack
open Go.ChangeShapes Go.WideShapes Go.ChangeAt Go.RowKit Go.PlainAid Go.Lib
open Go.ChangeMaps (open_string shut_string)
set_option linter.unusedVariables false

theorem below2 {a b c : World} (h : Below a.heap.size a b) (k : Below b.heap.size b c) : Below a.heap.size a c := h.trans (k.mono h.size)
theorem add_reads {x : Addr} {b off : Nat} (h : some x = some (⟨b, off, none⟩ : Addr)) (j : Nat) : x.add j = ⟨b, off + j, none⟩ := by
  cases h
  by_cases hj : j = 0
  · subst hj; rfl
  · simp [Addr.add, hj]
theorem news_reads {w : World} {x : Addr} {ys : List Int} (h : Reads w (some x) ys) :
    (ys.map (Value.int .i32)).length = ys.length * 1 ∧ (∀ j u, (ys.map (Value.int .i32))[j]? = some u → w.cell? (x.add j) = some u) ∧ (∀ u ∈ ys.map (Value.int .i32), u.oneCell' = true) := by
  refine ⟨by simp, ?_, ?_⟩
  · intro j u hu
    have hj : j < ys.length := by
      have := (List.getElem?_eq_some_iff.1 hu).1; simpa using this
    obtain ⟨b, off, e, hc⟩ := h j hj
    rw [add_reads e j, hc]
    simp [List.getElem?_eq_getElem hj] at hu
    simp [List.getD, List.getElem?_eq_getElem hj, hu]
  · intro u hu
    obtain ⟨z, _, rfl⟩ := List.mem_map.1 hu
    rfl
theorem check_ok (s : ByteArray) (h : ∀ i ∈ places s, Utf8.decode s i ≠ (65533, 1)) {a : Nat} {c : Int} (hv : checkV s a c) : a = s.size ∧ c = 0 := by
  rcases hv with ⟨_, h1, h2⟩ | ⟨pre, rest, h1, _, h3, _⟩
  · exact ⟨h1, h2⟩
  · have ha : a ∈ places s := by rw [h1]; simp
    exact absurd ((why_iff s a (places_lt s a ha)).2 (h a ha)) h3
theorem check_zero (s : ByteArray) {a : Nat} {c : Int} (hv : checkV s a c) (hc : c = 0) : a = s.size ∧ ∀ i ∈ places s, Utf8.decode s i ≠ (65533, 1) := by
  rcases hv with ⟨h, h1, _⟩ | ⟨pre, rest, _, _, h3, h4⟩
  · exact ⟨h1, fun i hi => (why_iff s i (places_lt s i hi)).1 (h i hi)⟩
  · exact absurd (h4.symm.trans hc) h3
theorem scalar_is (r : Int) (b : Bool) (h : scalarB r = b) (w : World) : Calls Try.prog 20 #[.int .i32 r] w fun e w' => e = .returned (.bool b) ∧ w' = w := by
  rw [← h]; exact scalar_any r w
theorem drewN_add (w : World) (m k : Nat) : (w.drewN m).drewN k = w.drewN (m + k) := by simp [World.drewN, Nat.add_assoc]
theorem beq_str (a b : ByteArray) : (a.toList == b.toList) = decide (a = b) := by
  rw [Bool.eq_iff_iff]
  simp only [beq_iff_eq, decide_eq_true_eq]
  constructor
  · intro h
    rw [ByteArray.toList_eq, ByteArray.toList_eq] at h
    exact ByteArray.ext (Array.toList_inj.1 h)
  · intro h; rw [h]

set_option maxRecDepth 100000 in
set_option maxHeartbeats 8000000 in
theorem walk_some (s : ByteArray) (x : Addr) (ys : List Int) (cap : Nat) (w : World) (hs : s.size ≤ 1048576) (hR : Reads w (some x) ys) (hlen : ys.length ≤ 1048576) :
    Calls Try.prog 4 #[.string s, .slice (some x) ys.length cap] w fun e w' => e = .returned (.bool true) ∧ Below w.heap.size w w' := by
  obtain ⟨i0, hi, hz0, hz1, hz2⟩ := info_parts infoRune
  have HR := hide hR
  clear hR
  generalize hn : ys.length = n at *
  have HN := hide hn
  clear hn
  go_enter Try.func4, Try.ntmps4
  go_wp2
  go_loop [5, 6] (fun v5 v6 => ∃ (k : Nat) (b : Bool), k ≤ n ∧ v6 = .int .i64 k ∧ v5 = .bool b) (fun _ v6 => n - (intOf v6).toNat)
  case atStart => exact ⟨0, true, Nat.zero_le _, rfl, rfl⟩
  case round =>
    obtain ⟨k, b, hk, rfl, rfl⟩ := hrel
    by_cases hlt : k < n
    · obtain ⟨b1, o1, hx1, c1⟩ := unhide HR k (by rw [unhide HN]; exact hlt)
      obtain rfl : x = ⟨b1, o1, none⟩ := by cases hx1; rfl
      simp only [List.getD_eq_getElem?_getD] at c1
      generalize ys[k]?.getD 0 = r at *
      cases b
      · go_wp2
        go_round
        case rel => exact ⟨k + 1, _, by omega, by go_num, rfl⟩
        case measure => simp [intOf]; omega
      · go_wp2_with (go_at_call 20; refine (scalar_any _ _).mono ?_; rintro e w' ⟨rfl, rfl⟩)
        go_round
        case rel => exact ⟨k + 1, _, by omega, by go_num, rfl⟩
        case measure => simp [intOf]; omega
    · obtain ⟨n1, n2, n3⟩ := news_reads (unhide HR)
      rw [unhide HN] at n1
      have N1 := hide n1
      have N2 := hide n2
      have N3 := hide n3
      clear n1 n2 n3
      go_wp2_with (at_builtin; refine wpList_append_own w rfl _ _ 46 rfl w.heap.size 21 i0 (.int .i32 0) 1 4 Try.underlying46 hi hz0 hz1 hz2 rfl (by decide) (.slice none 0 0) 0 [] rfl (World.ownsRow_nil _ _ _ _) x n cap (ys.map (Value.int .i32)) rfl (unhide N1) (unhide N2) (unhide N3) (by unfold maxLen; omega) (by omega) (Nat.le_refl _) ?_; intro v' W5 hown' hgrow _)
      have hX : W5.ownsRow w.heap.size 21 1 v' n (ys.map (Value.int .i32)) := by have := hown'; rw [Nat.zero_add, List.nil_append] at this; exact this
      have HX := hide hX
      have hB5 : Below w.heap.size w W5 := (Below.refl _ _).grown hgrow (Nat.le_refl _) (fun k e => by simp [Value.ownBlock] at e)
      have hbs : (runesBytes ys).size ≤ 4194304 := by have := runesBytes_size_le ys; rw [unhide HN] at this; omega
      have hch := chars_runes ys
      have HCH := hide hch
      have hcn : (chars (runesBytes ys) 0).length = n := by
        have := congrArg List.length hch.1
        rw [List.length_map, List.length_map, unhide HN] at this; exact this
      have HCN := hide hcn
      clear hX hch hcn
      go_wp2_with fail
      refine (encode_own (unhide HX)).mono ?_
      rintro e W6 ⟨rfl, rfl⟩
      go_wp2_with fail
      refine (runes_any (runesBytes ys) _ (by omega)).mono ?_
      rintro e W7 ⟨cap7, rfl, hown7, hb7⟩
      rw [unhide HCN] at hown7 ⊢
      have hB7 := below2 hB5 hb7
      have hback : ∀ k, k < n → W7.cell? ⟨W6.heap.size, k, none⟩ = some (.int .i32 ((fixN (ys.getD k 0) : Nat) : Int)) := by
        intro k hk
        refine (hown7.cellAt k (by omega)).trans ?_
        have e1 : runeVals (runesBytes ys) = (ys.map fixN).map fun x => .int .i32 ((x : Nat) : Int) := by
          rw [← (unhide HCH).1]; unfold runeVals; rw [List.map_map]; rfl
        have hk' : k < ys.length := by rw [unhide HN]; exact hk
        rw [e1]
        simp [List.getElem?_eq_getElem hk', List.getD]
      have HBACK := hide hback
      have HRD := hide ((unhide HR).below hB7)
      clear hback hown7 HX HCH HCN hb7 hB5
      go_wp2
      go_loopw [9] (fun v9 wr => ∃ j m : Nat, j ≤ n ∧ v9 = .int .i64 j ∧ wr = W7.drewN m) (fun v9 _ => n - (intOf v9).toNat)
      case atStart => exact ⟨0, 0, Nat.zero_le _, rfl, rfl⟩
      case round =>
        obtain ⟨j, m, hj, rfl, rfl⟩ := hrel
        by_cases hjl : j < n
        · obtain ⟨b2, o2, hx2, c2⟩ := unhide HRD j (by rw [unhide HN]; exact hjl)
          have c3 := unhide HBACK j hjl
          simp only [List.getD_eq_getElem?_getD] at c2 c3
          obtain rfl : x = ⟨b2, o2, none⟩ := by cases hx2; rfl
          generalize ys[j]?.getD 0 = r at *
          obtain ⟨WX, hWX⟩ : ∃ WX, W7.drewN m = WX := ⟨_, rfl⟩
          have c2 : WX.cell? ⟨b2, o2 + j, none⟩ = some (.int .i32 r) := by rw [← hWX]; exact c2
          have c3 : WX.cell? ⟨W6.heap.size, j, none⟩ = some (.int .i32 ((fixN r : Nat) : Int)) := by rw [← hWX]; exact c3
          rw [hWX]
          have HWX := hide hWX
          clear hWX
          cases hsc : scalarB r
          · have hfx : (((fixN r : Nat) : Int) != 65533) = false := by unfold fixN; rw [hsc]; rfl
            have hs1 := fun w => scalar_is r false hsc w
            have HS1 := hide hs1
            clear hs1 hsc
            generalize ((fixN r : Nat) : Int) = f at *
            go_wp2
            go_quiet ((go_at_call 20; exact Calls.quiet_of_same (unhide HS1 _)))
            go_wp2
            go_roundw
            case rel => exact ⟨j + 1, m + nq, by omega, by go_num, by rw [← unhide HWX]; exact drewN_add W7 m nq⟩
            case measure => simp [intOf]; omega
          · have hfx : ((fixN r : Nat) : Int) = r := by
              unfold fixN; rw [if_pos hsc]
              have h0 : 0 ≤ r := by unfold scalarB at hsc; simp at hsc; omega
              exact Int.toNat_of_nonneg h0
            rw [hfx] at c3
            have hs1 := fun w => scalar_is r true hsc w
            have HS1 := hide hs1
            have hrr : (r != r) = false := by simp
            clear hs1 hsc hfx
            go_wp2
            go_quiet ((go_at_call 20; exact Calls.quiet_of_same (unhide HS1 _)))
            go_wp2
            go_roundw
            case rel => exact ⟨j + 1, m + nq, by omega, by go_num, by rw [← unhide HWX]; exact drewN_add W7 m nq⟩
            case measure => simp [intOf]; omega
        · clear HRD HBACK HR
          obtain ⟨W8, hW8⟩ : ∃ W8, W7.drewN m = W8 := ⟨_, rfl⟩
          have hB8 : Below w.heap.size w W8 := by rw [← hW8]; exact below_drewN hB7 m
          rw [hW8]
          clear hW8 hB7
          go_wp2_with fail
          refine (check_any s _ (by unfold maxLen; omega)).mono ?_
          rintro e W9 ⟨a, c, hcv, rfl, hb9⟩
          have hB9 := below2 hB8 hb9
          have hmr := mend_chars s
          have hms := mendB_size s
          have hmm : mendB (mendB s) = mendB s := mend_right _ hmr.2
          have hml : (chars (mendB s) 0).length = (chars s 0).length := by
            have := congrArg List.length hmr.1
            rw [List.length_map, List.length_map] at this; exact this
          have hcm : ∀ {a' : Nat} {c' : Int}, checkV (mendB s) a' c' → a' = (mendB s).size ∧ c' = 0 := fun h => check_ok _ hmr.2 h
          have hz : c = 0 → a = s.size ∧ mendB s = s := fun h => ⟨(check_zero s hcv h).1, mend_right s (check_zero s hcv h).2⟩
          have hz2 : c = 0 → runesBytes (nums s 0) = s := fun h => (hz h).2
          have hnz : c ≠ 0 → mendB s ≠ s := fun h e => by
            rw [← e] at hcv
            rw [e] at hcv
            have h2 : ∀ i ∈ places s, Utf8.decode s i ≠ (65533, 1) := by rw [← e]; exact hmr.2
            exact h (check_ok s h2 hcv).2
          have HML := hide hml
          have HMM := hide hmm
          have HCM : Hid (∀ (a' : Nat) (c' : Int), checkV (mendB s) a' c' → a' = (mendB s).size ∧ c' = 0) := fun _ _ h => hcm h
          have hcl := chars_length s 0
          have hbq := beq_str (mendB s) s
          clear hb9 hB8 hmr hml hmm hcm hcv
          go_wp2_with fail
          refine (mend_any s _ (by omega)).mono ?_
          rintro e W10 ⟨rfl, hb10⟩
          have hB10 := below2 hB9 hb10
          have HZ2 := hide hz2
          clear hz2
          generalize hM : mendB s = M at *
          have hz2 := unhide HZ2
          clear hM hb10 hB9 HZ2
          go_wp2_with fail
          refine (check_any M _ (by unfold maxLen; omega)).mono ?_
          rintro e W11 ⟨a2, c2, hcv2, rfl, hb11⟩
          obtain ⟨rfl, rfl⟩ := unhide HCM _ _ hcv2
          have hB11 := below2 hB10 hb11
          clear hcv2 hb11 hB10 HCM
          go_wp2_with fail
          refine (count_any M _ (by unfold maxLen; omega)).mono ?_
          rintro e W12 ⟨rfl, hb12⟩
          rw [unhide HML]
          have hB12 := below2 hB11 hb12
          clear hb12 hB11
          generalize hLL : (chars s 0).length = L at *
          have HLL := hide hLL
          clear hLL
          go_wp2_with fail
          refine (count_any s _ (by unfold maxLen; omega)).mono ?_
          rintro e W13 ⟨rfl, hb13⟩
          rw [unhide HLL]
          have hB13 := below2 hB12 hb13
          clear hb13 hB12
          go_wp2_with fail
          refine (mend_any M _ (by omega)).mono ?_
          rintro e W14 ⟨rfl, hb14⟩
          rw [unhide HMM]
          have hB14 := below2 hB13 hb14
          clear hb14 hB13
          have hMM : (M.toList != M.toList) = false := by simp
          by_cases hc : c = 0
          · have hc1 : (c == 0) = true := by simp [hc]
            have hc2 : (c != 0) = false := by simp [hc]
            obtain ⟨ha, he⟩ := hz hc
            have he2 := hz2 hc
            have hbq2 : (M.toList == s.toList) = true := by rw [hbq]; simp [he]
            have hss : (s.toList == s.toList) = true := by simp
            have ha2 : ((a : Int) == (s.size : Int)) = true := by simp [ha]
            have HE2 : Hid (runesBytes (nums s 0) = s) := he2
            clear hz hz2 hnz hbq ha he hc he2
            go_wp2_with fail
            refine (runes_any s _ (by omega)).mono ?_
            rintro e W15 ⟨cap15, rfl, hown15, hb15⟩
            have hv : runeVals s = (nums s 0).map (Value.int .i32) := by unfold runeVals nums; rw [List.map_map]; rfl
            rw [hv] at hown15
            have HO15 := hide hown15
            have hB15 := below2 hB14 hb15
            clear hown15 hv hb15 hB14
            go_wp2_with fail
            refine (encode_own (unhide HO15)).mono ?_
            rintro e W16 ⟨rfl, rfl⟩
            rw [unhide HE2]
            go_wp2_with (go_at_call 9; refine (lives_any _).mono ?_; rintro e w17 ⟨rfl, hb17⟩)
            go_ret
            exact ⟨rfl, below2 hB15 hb17⟩
          · have hc1 : (c == 0) = false := by simp [hc]
            have hc2 : (c != 0) = true := by simp [hc]
            have hbq2 : (M.toList == s.toList) = false := by rw [hbq]; simp [hnz hc]
            clear hz hz2 hnz hbq hc
            go_wp2_with (go_at_call 9; refine (lives_any _).mono ?_; rintro e w17 ⟨rfl, hb17⟩)
            go_ret
            exact ⟨rfl, below2 hB14 hb17⟩

set_option maxRecDepth 100000 in
set_option maxHeartbeats 8000000 in
theorem walk_nil (s : ByteArray) (w : World) (hs : s.size ≤ 1048576) :
    Calls Try.prog 4 #[.string s, .slice none 0 0] w fun e w' => e = .returned (.bool true) ∧ Below w.heap.size w w' := by
  have hc0 : (chars (ByteArray.empty) 0).length = 0 := by rw [chars_end _ _ (by simp)]; rfl
  have HC0 := hide hc0
  clear hc0
  go_enter Try.func4, Try.ntmps4
  go_wp2
  go_loop [5, 6] (fun v5 v6 => v6 = .int .i64 0 ∧ v5 = .bool true) (fun _ _ => 0)
  case atStart => exact ⟨rfl, rfl⟩
  case round =>
    obtain ⟨rfl, rfl⟩ := hrel
    go_wp2_with fail
    refine (encode_nil _ _ _).mono ?_
    rintro e W6 ⟨rfl, rfl⟩
    go_wp2_with fail
    refine (runes_any ByteArray.empty _ (by decide)).mono ?_
    rintro e W7 ⟨cap7, rfl, hown7, hb7⟩
    rw [unhide HC0]
    have hB7 := hb7
    clear hown7 hb7
    go_wp2
    go_loop [9] (fun v9 => v9 = .int .i64 0) (fun _ => 0)
    case atStart => exact rfl
    case round =>
      obtain rfl := hrel
      have hB8 := hB7
      clear hB7
      go_wp2_with fail
      refine (check_any s _ (by unfold maxLen; omega)).mono ?_
      rintro e W9 ⟨a, c, hcv, rfl, hb9⟩
      have hB9 := below2 hB8 hb9
      have hmr := mend_chars s
      have hms := mendB_size s
      have hmm : mendB (mendB s) = mendB s := mend_right _ hmr.2
      have hml : (chars (mendB s) 0).length = (chars s 0).length := by
        have := congrArg List.length hmr.1
        rw [List.length_map, List.length_map] at this; exact this
      have hcm : ∀ {a' : Nat} {c' : Int}, checkV (mendB s) a' c' → a' = (mendB s).size ∧ c' = 0 := fun h => check_ok _ hmr.2 h
      have hz : c = 0 → a = s.size ∧ mendB s = s := fun h => ⟨(check_zero s hcv h).1, mend_right s (check_zero s hcv h).2⟩
      have hz2 : c = 0 → runesBytes (nums s 0) = s := fun h => (hz h).2
      have hnz : c ≠ 0 → mendB s ≠ s := fun h e => by
        rw [← e] at hcv
        rw [e] at hcv
        have h2 : ∀ i ∈ places s, Utf8.decode s i ≠ (65533, 1) := by rw [← e]; exact hmr.2
        exact h (check_ok s h2 hcv).2
      have HML := hide hml
      have HMM := hide hmm
      have HCM : Hid (∀ (a' : Nat) (c' : Int), checkV (mendB s) a' c' → a' = (mendB s).size ∧ c' = 0) := fun _ _ h => hcm h
      have hcl := chars_length s 0
      have hbq := beq_str (mendB s) s
      clear hb9 hB8 hmr hml hmm hcm hcv
      go_wp2_with fail
      refine (mend_any s _ (by omega)).mono ?_
      rintro e W10 ⟨rfl, hb10⟩
      have hB10 := below2 hB9 hb10
      have HZ2 := hide hz2
      clear hz2
      generalize hM : mendB s = M at *
      have hz2 := unhide HZ2
      clear hM hb10 hB9 HZ2
      go_wp2_with fail
      refine (check_any M _ (by unfold maxLen; omega)).mono ?_
      rintro e W11 ⟨a2, c2, hcv2, rfl, hb11⟩
      obtain ⟨rfl, rfl⟩ := unhide HCM _ _ hcv2
      have hB11 := below2 hB10 hb11
      clear hcv2 hb11 hB10 HCM
      go_wp2_with fail
      refine (count_any M _ (by unfold maxLen; omega)).mono ?_
      rintro e W12 ⟨rfl, hb12⟩
      rw [unhide HML]
      have hB12 := below2 hB11 hb12
      clear hb12 hB11
      generalize hLL : (chars s 0).length = L at *
      have HLL := hide hLL
      clear hLL
      go_wp2_with fail
      refine (count_any s _ (by unfold maxLen; omega)).mono ?_
      rintro e W13 ⟨rfl, hb13⟩
      rw [unhide HLL]
      have hB13 := below2 hB12 hb13
      clear hb13 hB12
      go_wp2_with fail
      refine (mend_any M _ (by omega)).mono ?_
      rintro e W14 ⟨rfl, hb14⟩
      rw [unhide HMM]
      have hB14 := below2 hB13 hb14
      clear hb14 hB13
      have hMM : (M.toList != M.toList) = false := by simp
      by_cases hc : c = 0
      · have hc1 : (c == 0) = true := by simp [hc]
        have hc2 : (c != 0) = false := by simp [hc]
        obtain ⟨ha, he⟩ := hz hc
        have he2 := hz2 hc
        have hbq2 : (M.toList == s.toList) = true := by rw [hbq]; simp [he]
        have hss : (s.toList == s.toList) = true := by simp
        have ha2 : ((a : Int) == (s.size : Int)) = true := by simp [ha]
        have HE2 : Hid (runesBytes (nums s 0) = s) := he2
        clear hz hz2 hnz hbq ha he hc he2
        go_wp2_with fail
        refine (runes_any s _ (by omega)).mono ?_
        rintro e W15 ⟨cap15, rfl, hown15, hb15⟩
        have hv : runeVals s = (nums s 0).map (Value.int .i32) := by unfold runeVals nums; rw [List.map_map]; rfl
        rw [hv] at hown15
        have HO15 := hide hown15
        have hB15 := below2 hB14 hb15
        clear hown15 hv hb15 hB14
        go_wp2_with fail
        refine (encode_own (unhide HO15)).mono ?_
        rintro e W16 ⟨rfl, rfl⟩
        rw [unhide HE2]
        go_wp2_with (go_at_call 9; refine (lives_any _).mono ?_; rintro e w17 ⟨rfl, hb17⟩)
        go_ret
        exact ⟨rfl, below2 hB15 hb17⟩
      · have hc1 : (c == 0) = false := by simp [hc]
        have hc2 : (c != 0) = true := by simp [hc]
        have hbq2 : (M.toList == s.toList) = false := by rw [hbq]; simp [hnz hc]
        clear hz hz2 hnz hbq hc
        go_wp2_with (go_at_call 9; refine (lives_any _).mono ?_; rintro e w17 ⟨rfl, hb17⟩)
        go_ret
        exact ⟨rfl, below2 hB14 hb17⟩

theorem walk (s : ByteArray) (a1 : Option Addr) (ys : List Int) (cap : Nat) (w : World) (hs : s.size ≤ 1048576) (hR : Reads w a1 ys) (hnil : a1 = none → ys = [] ∧ cap = 0) (hlen : ys.length ≤ 1048576) :
    Calls Try.prog 4 #[.string s, .slice a1 ys.length cap] w fun e w' => e = .returned (.bool true) ∧ Below w.heap.size w w' := by
  cases a1 with
  | none =>
    obtain ⟨rfl, rfl⟩ := hnil rfl
    exact walk_nil s w hs
  | some x => exact walk_some s x ys cap w hs hR hlen

theorem own : ownKnob Try.prog.godebug = none := by kernel_rfl
theorem laidOut : laidOutB Try.prog = true := by kernel_rfl

set_option maxRecDepth 100000 in
theorem contract (H : Type) (enc : TypeId × Value → H) (W : World) (base : Nat) (args : Array Value) (ds gs : List (DataW H)) (before : List MemPlace)
    (hval : ∀ (j : Nat) t v, Try.f4.params[j]? = some t → args[j]? = some v → Value.okWide Try.prog W .any base t v)
    (hW : DataW.Whole enc Try.prog Try.f4.params.toList Rows.utfBackSpec.vars false W args.toList ds gs before) (hk : Rows.uptoSmall H (ds ++ gs) = true) :
    Calls Try.prog 4 args W fun e W' => ∃ v, e = .returned v ∧ Rows.utfBackSpec.post enc Try.prog Try.f4 false true false false W args v W' := by
  have hW' := hW
  obtain ⟨p, q, hA0, hV, rfl, hfz, hnd⟩ := hW
  have hA : DataW.TrodAll enc Try.prog W 0 (fun _ => true) true Try.f4.params.toList args.toList ds p := hA0
  rw [Try.params4] at hA hval
  obtain ⟨v0, vs0, d0, ds0, p0, q0, hargs, rfl, rfl, h0, r0⟩ := trodAll_cons hA
  obtain ⟨v1, vs1, d1, ds1, p1, q1, rfl, rfl, rfl, h1, r1⟩ := trodAll_cons r0
  obtain ⟨rfl, rfl, rfl⟩ := trodAll_nil r1
  obtain rfl : args = #[v0, v1] := by cases args; simp_all
  obtain ⟨rfl, rfl⟩ := trodVars_none hV
  obtain ⟨a0, rfl, rfl, rfl, w0⟩ := open_string Try.underlying9 (hval 0 9 v0 rfl rfl) h0
  obtain ⟨a1, len1, cap1, rfl⟩ := okWide_slice Try.underlying46 (hval 1 46 v1 rfl rfl)
  have k1 := h1
  have lt1 : ∀ x ∈ p1, x.block < W.heap.size := by obtain ⟨m, hm⟩ := k1; exact DataW.trod_lt m _ _ _ hm
  have hk' : Rows.uptoSmall H [.lit (.string a0.data.toList), d1] = true := hk
  have hb := bulk_bound hk'
  simp only [Rows.uptoBulkAll] at hb
  rw [bulk_string a0] at hb
  have c0 : a0.size ≤ 1048576 := by omega
  obtain ⟨z1, w1, c1⟩ : ∃ zs, IsRow W a1 len1 cap1 zs ∧ cap1 ≤ 1048576 := by
    obtain ⟨fuel, hf⟩ := h1
    rcases open_ints Try.underlying46 Try.underlying21 (by kernel_rfl) hf with ⟨hcs, _⟩ | ⟨x, l, c, zs, hcs, _, hl, hm, hz, hx, hcell, hwz⟩
    · simp [Value.cells] at hcs
      obtain ⟨rfl, rfl, rfl⟩ := hcs
      exact ⟨[], .inl ⟨rfl, rfl, rfl, rfl⟩, by omega⟩
    · simp [Value.cells] at hcs
      obtain ⟨rfl, rfl, rfl⟩ := hcs
      have hz' : zs.length = cap1 := by simpa using hz
      refine ⟨zs, .inr ⟨_, rfl, hl, hm, hz', hcell⟩, ?_⟩
      have hd : d1 = .slice (lits .i32 (zs.take len1)) (lits .i32 (zs.drop len1)) := by simp only [Prod.mk.injEq] at hx; exact hx.1
      rw [hd] at hb
      have h2 := bulk_slice (H := H) (lits .i32 (zs.take len1)) (lits .i32 (zs.drop len1))
      have e1 : (lits (H := H) .i32 (zs.take len1)).length = (zs.take len1).length := by simp [lits]
      have e2 : (lits (H := H) .i32 (zs.drop len1)).length = (zs.drop len1).length := by simp [lits]
      rw [e1, e2, List.length_take, List.length_drop] at h2
      omega
  obtain ⟨hrd1, hle1⟩ := w1.reads
  have hlc1 : len1 ≤ cap1 := by rcases w1 with ⟨_, h, h', _⟩ | ⟨_, _, h, _⟩ <;> omega
  have hnil1 : a1 = none → z1.take len1 = [] ∧ cap1 = 0 := by
    intro hn
    rcases w1 with ⟨_, h, h', rfl⟩ | ⟨_, h, _⟩
    · exact ⟨by simp, h'⟩
    · rw [hn] at h; cases h
  clear hA0
  have hwk := walk a0 a1 (z1.take len1) cap1 W c0 hrd1 hnil1 (by rw [hle1]; omega)
  rw [hle1] at hwk
  refine hwk.mono fun e W' ⟨he, bel⟩ => ?_
  subst he
  exact ⟨_, rfl, _, _, _, [], _, [], hW', trodAll_mk1 (shut_bool Try.underlying4 _), (trodAll_cons_mk (shut_string Try.underlying9 w0) (trodAll_cons_mk (Below.trod laidOut (by kernel_rfl) (of_decide_eq_true (by kernel_rfl)) k1 bel lt1) trodAll_mk0)), rfl, bel.frame _, fun h => by cases h⟩

set_option maxRecDepth 100000 in
theorem lifted (os : Os) (started : os.Started) (H : Type) (enc : TypeId × Value → H) (F : Stop.Interp) :
    ReturnsInHanded {} Try.checked os 4 .any ((Rows.OpenSpec.upto Rows.utfBackSpec).pre6 enc Try.prog Try.f4 Rows.utfBackUptoRow.domain false) (((Rows.OpenSpec.upto Rows.utfBackSpec).at F).post enc Try.prog Try.f4 false true false false) := by
  refine returnsInHanded_of_cond (C := Try.checked) (s := Rows.OpenSpec.upto Rows.utfBackSpec) (k := Rows.uptoSmall) rfl own started (by kernel_rfl) Try.func4
    (OpenSpec.witness (enc := enc) (C := Try.checked) (s := Rows.OpenSpec.upto Rows.utfBackSpec) (k := Rows.uptoSmall) rfl false ⟨#[], #[.string ByteArray.empty, .slice none 0 0], []⟩ 8 (by kernel_rfl) (by kernel_rfl) (by kernel_rfl)
      (x := ([.lit (.string []), .nil], [], [])) (by kernel_rfl) rfl (by kernel_rfl)) ?_
  intro W base args ds gs before hval hW _ hk _
  exact contract H enc W base args ds gs before hval hW hk

theorem over : Rows.utfBackUptoRow.holds Try.pinned (Rows.OpenSpec.upto Rows.utfBackSpec) :=
  OpenClaim.holds_of_cond 4 Try.f4 rfl rfl rfl rfl rfl rfl rfl ⟨rfl, rfl, rfl, rfl, rfl⟩ rfl rfl rfl rfl rfl (by kernel_rfl) Try.func4 (by kernel_rfl)
    (of_decide_eq_true (by kernel_rfl)) (by unfold Func.isWrapper; first | (rw [if_pos (by decide +kernel)]; kernel_rfl) | (rw [if_neg (by decide +kernel)]; exact ⟨rfl, rfl⟩))
    (fun os started H enc _ F => lifted os started H enc F)

end Go.Proofs.Ytgffibonikcecab.utfBack
namespace Go.Proofs.Ytgffibonikcecab
theorem utfBack_upto : Rows.UtfBackUptoSaid := utfBack.over
end Go.Proofs.Ytgffibonikcecab


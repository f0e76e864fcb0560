/-
  What a character is made of, read.
-/
import Derived.Test.YthjnkagepooeiaaGreatDoorRwD
namespace Go.Proofs.YthjnkagepooeiaaGreatDoor
open Go.RowKit Go.PlainAid Go.Lib Go.PHexM
set_option linter.unusedVariables false
set_option linter.unusedSimpArgs false

theorem split_sizes (sep : ByteArray) (save : Nat) : ∀ (k : Nat) (s : ByteArray), ∀ p ∈ splitB sep save k s, p.size ≤ s.size
  | 0, s, p, hp => by simp [splitB] at hp; subst hp; exact Nat.le_refl _
  | k + 1, s, p, hp => by
    unfold splitB at hp
    split at hp
    · simp at hp; subst hp; exact Nat.le_refl _
    · rcases List.mem_cons.1 hp with rfl | hp
      · rw [ByteArray.size_extract]; omega
      · have := split_sizes sep save k _ p hp
        rw [ByteArray.size_extract] at this; omega
theorem twin_bad {t0 : Int} {f : List UInt8} {ps : List ByteArray} {p0 q : ByteArray} {t : Bool} {i : Nat} (h0 : f ≠ []) (hpc : piecesP f = ps.map (·.data.toList)) (hp0 : ps[0]? = some p0) (ht : tagB p0.data.toList = t) (hi : (ps.drop (if t then 1 else 0))[i]? = some q) (hq : hexP q.data.toList = none) : twinP t0 f = none := by
  obtain ⟨rest, rfl⟩ : ∃ rest, ps = p0 :: rest := by
    cases ps with
    | nil => simp at hp0
    | cons a l => simp at hp0; subst hp0; exact ⟨l, rfl⟩
  unfold twinP
  rw [if_neg h0, hpc]
  simp only [List.map_cons, List.headD_cons, ht]
  have hm : q.data.toList ∈ (if t = true then List.drop 1 (p0.data.toList :: List.map (fun x => x.data.toList) rest) else p0.data.toList :: List.map (fun x => x.data.toList) rest) := by
    have hm := List.mem_of_getElem? hi
    cases t with
    | true => simp only [if_true, List.drop_succ_cons, List.drop_zero] at hm ⊢; exact List.mem_map_of_mem (f := fun x : ByteArray => x.data.toList) hm
    | false => simp only [Bool.false_eq_true, if_false, List.drop_zero] at hm ⊢; exact List.mem_map_of_mem (f := fun x : ByteArray => x.data.toList) hm
  rw [if_neg (by intro e; rw [e] at hm; simp at hm), if_neg]
  intro hall
  have := List.all_eq_true.1 hall _ hm
  simp [hq] at this
theorem twin_ok {t0 : Int} {f : List UInt8} {ps : List ByteArray} {p0 : ByteArray} {t : Bool} (h0 : f ≠ []) (hpc : piecesP f = ps.map (·.data.toList)) (hp0 : ps[0]? = some p0) (ht : tagB p0.data.toList = t) (hall : ∀ q ∈ ps.drop (if t then 1 else 0), (hexP q.data.toList).isSome = true) (hl : 1 < (if t then ps.length else ps.length)) : twinP t0 f = some t0 := by
  obtain ⟨rest, rfl⟩ : ∃ rest, ps = p0 :: rest := by
    cases ps with
    | nil => simp at hp0
    | cons a l => simp at hp0; subst hp0; exact ⟨l, rfl⟩
  unfold twinP
  rw [if_neg h0, hpc]
  simp only [List.map_cons, List.headD_cons, ht]
  cases t with
  | true =>
    simp only [if_true, List.drop_succ_cons, List.drop_zero, List.length_cons] at hall hl ⊢
    rw [if_neg (by intro e; have h := congrArg List.length e; rw [List.length_map, List.length_nil] at h; omega), if_pos (by rw [List.all_map]; exact List.all_eq_true.2 hall)]
    simp
  | false =>
    simp only [Bool.false_eq_true, if_false, List.drop_zero, List.length_cons] at hall hl ⊢
    rw [if_neg (by simp), if_pos]
    · rw [if_neg]
      intro e
      simp at e
      subst e
      simp at hl
    · exact List.all_eq_true.2 fun x hx => by
        rcases List.mem_cons.1 hx with rfl | hx
        · exact hall _ (by simp)
        · obtain ⟨y, hy, rfl⟩ := List.mem_map.1 hx
          exact hall y (by simp [hy])
theorem twin_tag {t0 : Int} {f : List UInt8} {p0 : ByteArray} (h0 : f ≠ []) (hpc : piecesP f = [p0].map (·.data.toList)) (ht : tagB p0.data.toList = true) : twinP t0 f = none := by
  unfold twinP
  rw [if_neg h0, hpc]
  simp [ht]
theorem twin_one {t0 : Int} {f : List UInt8} {p0 : ByteArray} {k : Nat} (h0 : f ≠ []) (hpc : piecesP f = [p0].map (·.data.toList)) (ht : tagB p0.data.toList = false) (hk : hexP p0.data.toList = some k) : twinP t0 f = some (k : Int) := by
  unfold twinP
  rw [if_neg h0, hpc]
  simp [ht, hk]
theorem cell5_some {f : List UInt8} {r : RowD} {n : Int} (h : twinP r.twin f = some n) : cellP 5 f r = ({ r with twin := n }, 0) := by simp [cellP, h]
theorem cell5_none {f : List UInt8} {r : RowD} (h : twinP r.twin f = none) : cellP 5 f r = (r, 65) := by simp [cellP, h]

set_option maxRecDepth 100000 in
set_option maxHeartbeats 2000000 in
theorem readParts_any (b : Nat) (r : RowD) (f : List UInt8) (w : World) (h : RBox w b r) (hg : Glob w) (hf : f.length ≤ 1073741824) :
    Calls Tryz.prog 60 #[.pointer (some ⟨b, 0, none⟩), .string (S f)] w (ReadPost b r 5 f w) := by
  have hsz := S_size f
  by_cases h0 : f = []
  · subst h0
    have HB := hide h
    clear h hg
    go_enter Tryz.func60, Tryz.ntmps60
    go_wp2
    go_ret
    exact readPost_of rfl (unhide HB) (But.of_below (Below.refl _ _))
  · obtain ⟨m, hm⟩ := hg.max
    have HSP := hide (Tryz.strings_Split (S f) ⟨#[32]⟩ m w (by omega) hm (by decide))
    have hlen := splitB_all ⟨#[32]⟩ (by decide) 0 _ (S f) rfl
    obtain ⟨n, hn⟩ : ∃ n, countB (S f) ⟨#[32]⟩ = n := ⟨_, rfl⟩
    have hpc : piecesP f = (splitB ⟨#[32]⟩ 0 (countB (S f) ⟨#[32]⟩) (S f)).map (·.data.toList) := rfl
    have hsp := fun p hp => split_sizes ⟨#[32]⟩ 0 (countB (S f) ⟨#[32]⟩) (S f) p hp
    have hcl := countB_le ⟨#[32]⟩ (by decide) _ (S f) (Nat.le_refl _)
    rw [hn] at HSP hlen hpc hsp hcl
    obtain ⟨ps, hps⟩ : ∃ ps, splitB ⟨#[32]⟩ 0 n (S f) = ps := ⟨_, rfl⟩
    rw [hps] at HSP hlen hpc hsp
    have e0 : (f == []) = false := by simpa using h0
    have e1 : f.isEmpty = false := by cases f <;> simp_all
    obtain ⟨p0, hp0⟩ : ∃ p, ps[0]? = some p := ⟨_, List.getElem?_eq_getElem (by omega)⟩
    have HTG := hide (fun w => isTag_any p0 w (by have := hsp p0 (List.mem_of_getElem? hp0); omega))
    obtain ⟨t, ht⟩ : ∃ t, tagB p0.data.toList = t := ⟨_, rfl⟩
    rw [ht] at HTG
    rw [← hlen] at HSP
    obtain ⟨W1, hW1⟩ : ∃ W1, w.alloc (Obj.cells (ps.map Value.string).toArray 9) = W1 := ⟨_, rfl⟩
    rw [hW1] at HSP
    have hb1 : Below w.heap.size w W1 := by rw [← hW1]; exact (Below.refl _ w).alloc (Nat.le_refl _) _
    have hgm : W1.heap[w.heap.size]? = some (.cells (ps.map Value.string).toArray 9 (0, 0)) := by rw [← hW1]; exact heap_alloc_new w _
    have hcell : ∀ V : World, V.heap[w.heap.size]? = some (.cells (ps.map Value.string).toArray 9 (0, 0)) → ∀ i q, ps[i]? = some q → V.cell? ⟨w.heap.size, i, none⟩ = some (.string q) := fun V hV i q hq => by simp [World.cell?, hV, hq]
    have hB1 := h.below hb1
    have hbl := h.lt
    have hN : ps.length ≤ 1073741825 := by omega
    have H0 := hide (⟨h0, hpc, hp0, ht⟩ : f ≠ [] ∧ piecesP f = ps.map (·.data.toList) ∧ ps[0]? = some p0 ∧ tagB p0.data.toList = t)
    have HL := hide hlen
    have HCE := hide hcell
    have c0 := hcell W1 hgm 0 p0 hp0
    have HGM := hide hgm
    have HB1 := hide hB1
    have HBW := hide hb1
    obtain ⟨N, hN'⟩ : ∃ N, ps.length = N := ⟨_, rfl⟩
    rw [hN'] at HSP hN
    have HN := hide hN'
    have hN1 : 1 ≤ N := by omega
    have hN1' : (0 : Int) < (N : Int) := by omega
    have g0 : w.heap.size ≠ b := by omega
    have HX := hide (fun (q : ByteArray) (V : World) => hex_any q V)
    clear h hg h0 hpc hp0 ht hlen hcell hgm hB1 hb1 hps hsp hcl hn hsz hW1 hm hN'
    cases t with
    | true =>
      by_cases hone : N = 1
      · subst hone
        obtain ⟨rfl⟩ : ps = [p0] := by
          have h1 := unhide HN
          have h2 := (unhide H0).2.2.1
          match ps, h1, h2 with
          | [a], _, h2 => simp at h2; subst h2; rfl
        have HC := hide (cell5_none (r := r) (twin_tag (t0 := r.twin) (unhide H0).1 (unhide H0).2.1 (unhide H0).2.2.2))
        go_enter Tryz.func60, Tryz.ntmps60
        go_wp2_with (first | (go_at_call 89; refine (unhide HSP).mono ?_; rintro e w' ⟨rfl, hw⟩; obtain rfl : W1 = w' := hw.symm) | (go_at_call 90; refine (unhide HTG _).mono ?_; rintro e w' ⟨rfl, hw⟩; obtain rfl : W1 = w' := hw.symm))
        go_ret
        exact readPost_of (unhide HC) (unhide HB1) (But.of_below (unhide HBW))
      · obtain ⟨M, rfl⟩ : ∃ M, N = M + 1 := ⟨N - 1, by omega⟩
        have hM : 1 ≤ M := by omega
        have hM0 : ((M : Int) == 0) = false := by simp; omega
        have hM1 : ((M : Int) + 1 - 1) = (M : Int) := by omega
        go_enter Tryz.func60, Tryz.ntmps60
        go_wp2_with (first | (go_at_call 89; refine (unhide HSP).mono ?_; rintro e w' ⟨rfl, hw⟩; obtain rfl : W1 = w' := hw.symm) | (go_at_call 90; refine (unhide HTG _).mono ?_; rintro e w' ⟨rfl, hw⟩; obtain rfl : W1 = w' := hw.symm))
        go_loopw [27] (fun v27 wr => ∃ i : Nat, v27 = .int .i64 i ∧ i ≤ M ∧ Hid (∀ j q, j < i → ps[j + 1]? = some q → (hexP q.data.toList).isSome = true) ∧ wr = W1) (fun v27 _ => M - (RowKit.intOf v27).toNat)
        case atStart => exact ⟨0, rfl, Nat.zero_le _, fun j q hj => by omega, rfl⟩
        case round =>
          obtain ⟨i, rfl, hi, HA, rfl⟩ := hrel
          by_cases hlt : i < M
          · have hlt' : (i : Int) < (M : Int) := by omega
            obtain ⟨q, hq⟩ : ∃ q, ps[i + 1]? = some q := ⟨_, List.getElem?_eq_getElem (by have := unhide HN; omega)⟩
            have cq := unhide HCE wr (unhide HGM) _ q hq
            have cq2 : wr.cell? ⟨w.heap.size, 1 + i, none⟩ = some (.string q) := by rw [Nat.add_comm]; exact cq
            have HQ := hide hq
            cases hx : hexP q.data.toList with
            | none =>
              have HV := unhide HX q wr
              rw [hexV_none hx] at HV
              have HVV := hide HV
              have HC := hide (cell5_none (r := r) (twin_bad (i := i) (q := q) (unhide H0).1 (unhide H0).2.1 (unhide H0).2.2.1 (unhide H0).2.2.2 (by rw [List.getElem?_drop]; simpa [Nat.add_comm] using hq) hx))
              clear hx HV hq
              go_wp2_with (go_at_call 83; refine (unhide HVV).mono ?_; rintro e w' ⟨rfl, hw⟩; obtain rfl : wr = w' := hw.symm)
              go_ret
              exact readPost_of (unhide HC) (unhide HB1) (But.of_below (unhide HBW))
            | some k =>
              have HV := unhide HX q wr
              rw [hexV_some hx] at HV
              have HVV := hide HV
              have HK := hide hx
              clear hx HV hq
              go_wp2_with (go_at_call 83; refine (unhide HVV).mono ?_; rintro e w' ⟨rfl, hw⟩; obtain rfl : wr = w' := hw.symm)
              go_roundw
              case rel =>
                refine ⟨i + 1, by go_num, by omega, fun j q' hj hq' => ?_, trivial⟩
                by_cases hji : j < i
                · exact unhide HA j q' hji hq'
                · obtain rfl : j = i := by omega
                  rw [unhide HQ] at hq'
                  cases hq'
                  rw [unhide HK]; rfl
              case measure => simp [RowKit.intOf]; omega
          · obtain rfl : i = M := by omega
            have HC := hide (cell5_some (r := r) (twin_ok (t0 := r.twin) (unhide H0).1 (unhide H0).2.1 (unhide H0).2.2.1 (unhide H0).2.2.2 (by
              intro q hq
              obtain ⟨j, hj⟩ := List.getElem?_of_mem hq
              rw [List.getElem?_drop] at hj
              have hjl := (List.getElem?_eq_some_iff.1 hj).1
              have := unhide HN
              exact unhide HA j q (by simp at hjl; omega) (by simpa [Nat.add_comm] using hj)) (by have := unhide HN; simp; omega)))
            go_wp2
            go_ret
            exact readPost_of (unhide HC) (unhide HB1) (But.of_below (unhide HBW))
    | false =>
      by_cases hone : N = 1
      · subst hone
        go_enter Tryz.func60, Tryz.ntmps60
        go_wp2_with (first | (go_at_call 89; refine (unhide HSP).mono ?_; rintro e w' ⟨rfl, hw⟩; obtain rfl : W1 = w' := hw.symm) | (go_at_call 90; refine (unhide HTG _).mono ?_; rintro e w' ⟨rfl, hw⟩; obtain rfl : W1 = w' := hw.symm))
        obtain ⟨rfl⟩ : ps = [p0] := by
          have h1 := unhide HN
          have h2 := (unhide H0).2.2.1
          match ps, h1, h2 with
          | [a], _, h2 => simp at h2; subst h2; rfl
        go_loopw [27] (fun v27 wr => (v27 = .int .i64 0 ∧ wr = W1) ∨ (v27 = .int .i64 1 ∧ ∃ k : Nat, hexP p0.data.toList = some k ∧ RBox wr b { r with twin := k } ∧ But b W1 wr)) (fun v27 _ => 1 - (RowKit.intOf v27).toNat)
        case atStart => exact .inl ⟨rfl, rfl⟩
        case round =>
          rcases hrel with ⟨rfl, rfl⟩ | ⟨rfl, k, hk, hbx, hbt⟩
          · cases hx : hexP p0.data.toList with
            | none =>
              have HV := unhide HX p0 wr
              rw [hexV_none hx] at HV
              have HVV := hide HV
              have HC := hide (cell5_none (r := r) (twin_bad (i := 0) (q := p0) (unhide H0).1 (unhide H0).2.1 (unhide H0).2.2.1 (unhide H0).2.2.2 (by simp) hx))
              clear hx HV
              go_wp2_with (go_at_call 83; refine (unhide HVV).mono ?_; rintro e w' ⟨rfl, hw⟩; obtain rfl : wr = w' := hw.symm)
              go_ret
              exact readPost_of (unhide HC) (unhide HB1) (But.of_below (unhide HBW))
            | some k =>
              have HV := unhide HX p0 wr
              rw [hexV_some hx] at HV
              have HVV := hide HV
              have c7 := (unhide HB1).cell (j := 7) rfl
              have f7 := (unhide HB1).frozen 7
              have HK := hide hx
              clear hx HV
              go_wp2_with (go_at_call 83; refine (unhide HVV).mono ?_; rintro e w' ⟨rfl, hw⟩; obtain rfl : wr = w' := hw.symm)
              go_roundw
              case rel => exact .inr ⟨by go_num, k, rfl, (unhide HB1).set 7 _ rfl, But.set _⟩
              case measure => simp [RowKit.intOf]
          · have HC := hide (cell5_some (r := r) (twin_one (t0 := r.twin) (unhide H0).1 (unhide H0).2.1 (unhide H0).2.2.2 hk))
            clear hk
            go_wp2
            go_ret
            exact readPost_of (unhide HC) hbx ((But.of_below (unhide HBW)).trans hbt)
      · have hM : 2 ≤ N := by omega
        have hM0 : ((N : Int) == 0) = false := by simp; omega
        have hM1 : ((N : Int) == 1) = false := by simp; omega
        go_enter Tryz.func60, Tryz.ntmps60
        go_wp2_with (first | (go_at_call 89; refine (unhide HSP).mono ?_; rintro e w' ⟨rfl, hw⟩; obtain rfl : W1 = w' := hw.symm) | (go_at_call 90; refine (unhide HTG _).mono ?_; rintro e w' ⟨rfl, hw⟩; obtain rfl : W1 = w' := hw.symm))
        go_loopw [27] (fun v27 wr => ∃ i : Nat, v27 = .int .i64 i ∧ i ≤ N ∧ Hid (∀ j q, j < i → ps[j ]? = some q → (hexP q.data.toList).isSome = true) ∧ wr = W1) (fun v27 _ => N - (RowKit.intOf v27).toNat)
        case atStart => exact ⟨0, rfl, Nat.zero_le _, fun j q hj => by omega, rfl⟩
        case round =>
          obtain ⟨i, rfl, hi, HA, rfl⟩ := hrel
          by_cases hlt : i < N
          · have hlt' : (i : Int) < (N : Int) := by omega
            obtain ⟨q, hq⟩ : ∃ q, ps[i ]? = some q := ⟨_, List.getElem?_eq_getElem (by have := unhide HN; omega)⟩
            have cq := unhide HCE wr (unhide HGM) _ q hq
            have cq2 : wr.cell? ⟨w.heap.size, 0 + i, none⟩ = some (.string q) := by rw [Nat.add_comm]; exact cq
            have HQ := hide hq
            cases hx : hexP q.data.toList with
            | none =>
              have HV := unhide HX q wr
              rw [hexV_none hx] at HV
              have HVV := hide HV
              have HC := hide (cell5_none (r := r) (twin_bad (i := i) (q := q) (unhide H0).1 (unhide H0).2.1 (unhide H0).2.2.1 (unhide H0).2.2.2 (by rw [List.getElem?_drop]; simpa [Nat.add_comm] using hq) hx))
              clear hx HV hq
              go_wp2_with (go_at_call 83; refine (unhide HVV).mono ?_; rintro e w' ⟨rfl, hw⟩; obtain rfl : wr = w' := hw.symm)
              go_ret
              exact readPost_of (unhide HC) (unhide HB1) (But.of_below (unhide HBW))
            | some k =>
              have HV := unhide HX q wr
              rw [hexV_some hx] at HV
              have HVV := hide HV
              have HK := hide hx
              clear hx HV hq
              go_wp2_with (go_at_call 83; refine (unhide HVV).mono ?_; rintro e w' ⟨rfl, hw⟩; obtain rfl : wr = w' := hw.symm)
              go_roundw
              case rel =>
                refine ⟨i + 1, by go_num, by omega, fun j q' hj hq' => ?_, trivial⟩
                by_cases hji : j < i
                · exact unhide HA j q' hji hq'
                · obtain rfl : j = i := by omega
                  rw [unhide HQ] at hq'
                  cases hq'
                  rw [unhide HK]; rfl
              case measure => simp [RowKit.intOf]; omega
          · obtain rfl : i = N := by omega
            have HC := hide (cell5_some (r := r) (twin_ok (t0 := r.twin) (unhide H0).1 (unhide H0).2.1 (unhide H0).2.2.1 (unhide H0).2.2.2 (by
              intro q hq
              obtain ⟨j, hj⟩ := List.getElem?_of_mem hq
              rw [List.getElem?_drop] at hj
              have hjl := (List.getElem?_eq_some_iff.1 hj).1
              have := unhide HN
              exact unhide HA j q (by simp at hjl; omega) (by simpa [Nat.add_comm] using hj)) (by have := unhide HN; simp; omega)))
            go_wp2
            go_ret
            exact readPost_of (unhide HC) (unhide HB1) (But.of_below (unhide HBW))
end Go.Proofs.YthjnkagepooeiaaGreatDoor

/-
  scan of package brackets: the row that a line's fields tell.
-/
import Derived.Test.YtijiiapnbeljnaaGreatDoorBrK
import Derived.Test.YtijiiapnbeljnaaGreatDoorRwHex
import Derived.Test.YtijiiapnbeljnaaGreatDoorWb
namespace Go.Proofs.YtijiiapnbeljnaaGreatDoor
open Go.RowKit Go.PlainAid Go.Lib Go.Shelf Go.PHexM
set_option linter.unusedVariables false
set_option linter.unusedSimpArgs false

theorem lastF_le8 {n : Nat} {cur x : List UInt8} (h : x ∈ lastF n cur) : x.length ≤ cur.length := by
  unfold lastF at h
  split at h
  · simp at h; subst h; exact Nat.le_refl _
  · simp at h
theorem mach_field_le8 : ∀ (l : List UInt8) (n : Nat) (cur pend x : List UInt8), x ∈ (mach n cur pend l).1 → x.length ≤ cur.length + pend.length + l.length
  | [], n, cur, pend, x, h => by have := lastF_le8 (show x ∈ lastF n cur from h); omega
  | b :: l, n, cur, pend, x, h => by
    unfold mach at h
    split at h
    · split at h
      · have := mach_field_le8 l n [] [] x h; simp only [List.length_nil, List.length_cons] at this ⊢; omega
      · have := mach_field_le8 l n cur (pend ++ [b]) x h; simp only [List.length_append, List.length_cons, List.length_nil] at this ⊢; omega
    · split at h
      · rcases List.mem_cons.1 h with rfl | h
        · omega
        · have := mach_field_le8 l (n + 1) [] [] x h; simp only [List.length_nil, List.length_cons] at this ⊢; omega
      · split at h
        · have := lastF_le8 (show x ∈ lastF n cur from h); omega
        · have := mach_field_le8 l n (cur ++ pend ++ [b]) [] x h; simp only [List.length_append, List.length_cons, List.length_nil] at this ⊢; omega
theorem cut_field_le8 {s : ByteArray} {x : List UInt8} (h : x ∈ (cutS s).1) : x.length ≤ s.size := by
  have := mach_field_le8 (L s) 0 [] [] x h
  rw [L_len] at this
  simpa using this
theorem scan_field_le8 {no : Int} {s : ByteArray} {x : List UInt8} (h : x ∈ (scanS no s).1.fields) : x.length ≤ s.size := by
  unfold scanS at h
  split at h
  · simp [zeroD] at h
  · split at h
    · unfold orderS at h
      split at h
      · have h1 := cut_field_le8 h
        have h2 := (until_le 58 ((trimB (L s)).drop 1)).2
        have h3 := trimB_le (L s)
        rw [L_len] at h3
        have e := S_size (untilB 58 ((trimB (L s)).drop 1)).2.1
        rw [List.length_drop] at h2
        omega
      · simp [zeroD] at h
    · unfold plainS at h
      split at h
      · exact cut_field_le8 h
      · split at h
        · have h1 := cut_field_le8 h
          have h2 := mach_note_le (L s) 0 [] []
          have e := S_size ((cutS s).2.drop 9)
          rw [List.length_drop] at e
          have e2 : (cutS s).2.length ≤ (L s).length := h2
          rw [L_len] at e2
          omega
        · simp at h
/-- what scan says of a line -/
def scanB (d : LineD) : BrD × Int :=
  if d.kind = 1 ∧ d.fields.length = 3 then
    (match hexP (d.fields.getD 0 []), hexP (d.fields.getD 1 []) with
      | some a, some b => (⟨(a : Nat), (b : Nat), sideN (looseB (S (d.fields.getD 2 [])))⟩, sideE (looseB (S (d.fields.getD 2 []))))
      | _, _ => (zeroB, 40))
  else (zeroB, 80)
theorem hex_le {l : List UInt8} {n : Nat} (h : hexP l = some n) : n ≤ 1114111 := by
  unfold hexP at h
  split at h
  · split at h
    · cases h
    · split at h
      · cases h
      · cases h; omega
  · cases h
theorem scanB_ok (d : LineD) : BrOk (scanB d).1 := by
  unfold scanB
  split
  · split
    · rename_i a b h1 h2
      have e1 := hex_le h1
      have e2 := hex_le h2
      refine ⟨⟨by show (-2147483648 : Int) ≤ (a : Nat); omega, by show ((a : Nat) : Int) ≤ _; omega⟩, ⟨by show (-2147483648 : Int) ≤ (b : Nat); omega, by show ((b : Nat) : Int) ≤ _; omega⟩, ?_⟩
      show u8Ok (sideN _)
      unfold sideN u8Ok
      split
      · omega
      · split <;> omega
    · exact ⟨⟨by decide, by decide⟩, ⟨by decide, by decide⟩, ⟨by decide, by decide⟩⟩
  · exact ⟨⟨by decide, by decide⟩, ⟨by decide, by decide⟩, ⟨by decide, by decide⟩⟩

/-- the fields of a line in memory -/
theorem texts3 {w : World} {base : Nat} {v : Value} {f0 f1 f2 : List UInt8} (h : TextsAt w base v [f0, f1, f2]) : ∃ g c, v = .slice (some ⟨g, 0, none⟩) 3 c ∧ w.cell? ⟨g, 0, none⟩ = some (.string (S f0)) ∧ w.cell? ⟨g, 1, none⟩ = some (.string (S f1)) ∧ w.cell? ⟨g, 2, none⟩ = some (.string (S f2)) ∧ g < w.heap.size := by
  rcases h.2 with ⟨rfl, h0⟩ | ⟨g, cap, cur, rfl, _, hg, _⟩
  · simp at h0
  · have hc := fun i hi => World.ownsRow.cellAt h i hi
    refine ⟨g, cap, rfl, (hc 0 (by simp)).trans (by simp), (hc 1 (by simp)).trans (by simp), (hc 2 (by simp)).trans (by simp), (Array.getElem?_eq_some_iff.1 hg).1⟩
theorem texts_len {w : World} {base : Nat} {v : Value} {l : List (List UInt8)} (h : TextsAt w base v l) : ∃ a c, v = .slice a l.length c := by
  rcases h.2 with ⟨rfl, h0⟩ | ⟨g, cap, cur, rfl, _, hg, _⟩
  · exact ⟨none, 0, by rw [h0]⟩
  · exact ⟨_, _, rfl⟩

theorem scan_results {tmps : Array Value} {w : World} {b : Nat} {x : BrD} {k : Int} (h2 : tmps.getD 2 undef = .pointer (some ⟨b, 0, none⟩)) (h3 : tmps.getD 3 undef = .int .i64 k) (h : Blk w b (brC x) 26) : (results Tryz.f70 tmps).run Tryz.prog w = .ok (.tuple #[brV x, .int .i64 k]) w := by
  have c0 := h.cell (j := 0) rfl
  have c1 := h.cell (j := 1) rfl
  have c2 := h.cell (j := 2) rfl
  have h2' : tmps[2]?.getD undef = .pointer (some ⟨b, 0, none⟩) := by simpa using h2
  have h3' : tmps[3]?.getD undef = .int .i64 k := by simpa using h3
  simp [results, Tryz.results70, go_sem, h2', h3', c0, c1, c2]
theorem blk_put3 {X : World} {b : Nat} {x : BrD} (h : Blk X b (brC x) 26) (p q r : Int) : Blk (((X.setCell ⟨b, 0, none⟩ (.int .i32 p)).setCell ⟨b, 1, none⟩ (.int .i32 q)).setCell ⟨b, 2, none⟩ (.int .u8 r)) b (brC ⟨p, q, r⟩) 26 :=
  ((h.set (l' := [.int .i32 p, .int .i32 x.oth, .int .u8 x.side]) 0 _ rfl).set (l' := [.int .i32 p, .int .i32 q, .int .u8 x.side]) 1 _ rfl).set 2 _ rfl
theorem below_put3 {w X : World} {B b : Nat} (h : Below B w X) (hb : B ≤ b) (p q r : Int) : Below B w (((X.setCell ⟨b, 0, none⟩ (.int .i32 p)).setCell ⟨b, 1, none⟩ (.int .i32 q)).setCell ⟨b, 2, none⟩ (.int .u8 r)) :=
  ((h.setCell (by exact hb) _).setCell (by exact hb) _).setCell (by exact hb) _
theorem scan_end {tmps : Array Value} {w X : World} {b : Nat} {x : BrD} {p q r k : Int} {R : Ending → World → Prop} (h2 : tmps.getD 2 undef = .pointer (some ⟨b, 0, none⟩)) (h3 : tmps.getD 3 undef = .int .i64 k) (h : Blk X b (brC x) 26) (hb : Below w.heap.size w X) (hwb : w.heap.size ≤ b)
    (hR : ∀ W', Below w.heap.size w W' → R (.returned (.tuple #[brV ⟨p, q, r⟩, .int .i64 k])) W') : bodyPost Tryz.prog Tryz.f70 R .ret { tmps, defers := [] } (((X.setCell ⟨b, 0, none⟩ (.int .i32 p)).setCell ⟨b, 1, none⟩ (.int .i32 q)).setCell ⟨b, 2, none⟩ (.int .u8 r)) :=
  bodyPost_ret (scan_results (x := ⟨p, q, r⟩) h2 h3 (blk_put3 h p q r)) rfl (hR _ (below_put3 hb hwb p q r))

set_option maxRecDepth 100000 in
set_option maxHeartbeats 1000000 in
theorem scan8_any (d : LineD) (v : Value) (base : Nat) (w : World) (h : TextsAt w base v d.fields) (hs : ∀ x ∈ d.fields, x.length ≤ 1073741824) :
    Calls Tryz.prog 70 #[lineV d v] w fun e w' => e = .returned (.tuple #[brV (scanB d).1, .int .i64 (scanB d).2]) ∧ Below w.heap.size w w' := by
  obtain ⟨no, kind, name, fields, note⟩ := d
  simp only at h hs
  obtain ⟨a0, cc, hv⟩ := texts_len h
  obtain ⟨W2, hW2⟩ : ∃ W2, (w.alloc (.cells #[.int .i64 no, .int .u8 kind, .string (S name), v, .string (S note)] 100)).alloc (.cells #[.int .i32 0, .int .i32 0, .int .u8 0] 26) = W2 := ⟨_, rfl⟩
  have hb2 : Below w.heap.size w W2 := by rw [← hW2]; exact ((Below.refl _ w).alloc (Nat.le_refl _) _).alloc (by simp) _
  have b0 : Blk W2 w.heap.size [.int .i64 no, .int .u8 kind, .string (S name), v, .string (S note)] 100 := by
    rw [← hW2]; exact (Blk.new w [.int .i64 no, .int .u8 kind, .string (S name), v, .string (S note)] _).alloc _
  have b1 : Blk W2 (w.heap.size + 1) (brC zeroB) 26 := by
    show Blk W2 (w.heap.size + 1) [.int .i32 0, .int .i32 0, .int .u8 0] 26
    rw [← hW2]; simpa using Blk.new (w.alloc (.cells #[.int .i64 no, .int .u8 kind, .string (S name), v, .string (S note)] 100)) [.int .i32 0, .int .i32 0, .int .u8 0] 26
  have hlw : W2.heap.size = w.heap.size + 2 := by rw [← hW2]; simp
  have e1 := b0.cell (j := 1) rfl
  have e3 := b0.cell (j := 3) rfl
  have z0 := b1.cell (j := 0) rfl
  have z1 := b1.cell (j := 1) rfl
  have z2 := b1.cell (j := 2) rfl
  have y0 := b1.frozen 0
  have y1 := b1.frozen 1
  have y2 := b1.frozen 2
  simp only [zeroB] at z0 z1 z2
  by_cases hk : kind = 1
  · by_cases hl : fields.length = 3
    · obtain ⟨f0, f1, f2, rfl⟩ : ∃ f0 f1 f2, fields = [f0, f1, f2] := by
        match fields, hl with
        | [f0, f1, f2], _ => exact ⟨f0, f1, f2, rfl⟩
      obtain ⟨g, c, rfl, t0, t1, t2, hgl⟩ := texts3 h
      have hcell : ∀ k u, w.cell? ⟨g, k, none⟩ = some u → W2.cell? ⟨g, k, none⟩ = some u := fun k u hu => (hb2.cell (p := ⟨g, k, none⟩) hgl).trans hu
      have u0 := hcell 0 _ t0
      have u1 := hcell 1 _ t1
      have u2 := hcell 2 _ t2
      have H0 := hide (fun W => hex_any (S f0) W)
      have H1 := hide (fun W => hex_any (S f1) W)
      have H2 := hide (fun W => side_any (S f2) W (by have := hs f2 (by simp); have e := S_size f2; omega))
      have hd0 : (S f0).data.toList = f0 := by simp
      have hd1 : (S f1).data.toList = f1 := by simp
      rw [hd0] at H0
      rw [hd1] at H1
      subst hk
      have HSC : Hid (scanB ⟨no, 1, name, [f0, f1, f2], note⟩ = (match hexP f0, hexP f1 with
        | some a, some b => (⟨(a : Nat), (b : Nat), sideN (looseB (S f2))⟩, sideE (looseB (S f2)))
        | _, _ => (zeroB, 40))) := rfl
      clear h hs hv t0 t1 t2 hcell hl hd0 hd1
      cases hx0 : hexP f0 with
      | none =>
        rw [hexV_none hx0] at H0
        rw [hx0] at HSC
        have HB := hide (⟨b1, hb2⟩ : _ ∧ _)
        clear b0 b1 hb2 hlw hx0
        go_enter Tryz.func70, Tryz.ntmps70
        go_wp2_with (go_at_call 100; with_reducible refine (unhide H0 _).mono ?_; rintro e w' ⟨rfl, h⟩; cases h)
        obtain ⟨b1, hb2⟩ := unhide HB
        exact scan_end rfl rfl b1 hb2 (by omega) (fun W' hW' => ⟨by rw [HSC.out]; rfl, hW'⟩)
      | some n0 =>
        rw [hexV_some hx0] at H0
        cases hx1 : hexP f1 with
        | none =>
          rw [hexV_none hx1] at H1
          rw [hx0, hx1] at HSC
          have HB := hide (⟨b1, hb2⟩ : _ ∧ _)
          clear b0 b1 hb2 hlw hx0 hx1
          have tok : True := trivial
          go_enter Tryz.func70, Tryz.ntmps70
          go_wp2_with (first | (go_at_call 100; have _t := tok; with_reducible refine (unhide H0 _).mono ?_; rintro e w' ⟨rfl, h⟩; cases h; clear tok) | (go_at_call 100; with_reducible refine (unhide H1 _).mono ?_; rintro e w' ⟨rfl, h⟩; cases h))
          obtain ⟨b1, hb2⟩ := unhide HB
          exact scan_end rfl rfl b1 hb2 (by omega) (fun W' hW' => ⟨by rw [HSC.out]; rfl, hW'⟩)
        | some n1 =>
          rw [hexV_some hx1] at H1
          rw [hx0, hx1] at HSC
          generalize looseB (S f2) = tt at *
          generalize sideN tt = sn at *
          generalize sideE tt = se at *
          have HQ : Hid (∀ w3, Below W2.heap.size W2 w3 → w3.cell? ⟨w.heap.size + 1, 0, none⟩ = some (.int .i32 0) ∧ w3.cell? ⟨w.heap.size + 1, 1, none⟩ = some (.int .i32 0) ∧ w3.cell? ⟨w.heap.size + 1, 2, none⟩ = some (.int .u8 0) ∧ w3.frozen? ⟨w.heap.size + 1, 0, none⟩ = false ∧ w3.frozen? ⟨w.heap.size + 1, 1, none⟩ = false ∧ w3.frozen? ⟨w.heap.size + 1, 2, none⟩ = false ∧ Blk w3 (w.heap.size + 1) (brC zeroB) 26 ∧ Below w.heap.size w w3) := fun w3 hb3 => by
            have b3 := b1.below hb3
            exact ⟨b3.cell (j := 0) rfl, b3.cell (j := 1) rfl, b3.cell (j := 2) rfl, b3.frozen 0, b3.frozen 1, b3.frozen 2, b3, hb2.trans (hb3.mono hb2.size)⟩
          clear b0 b1 hb2 hlw hx0 hx1
          have tok : True := trivial
          go_enter Tryz.func70, Tryz.ntmps70
          go_wp2_with (first | (go_at_call 100; have _t := tok; with_reducible refine (unhide H0 _).mono ?_; rintro e w' ⟨rfl, h⟩; cases h; clear tok) | (go_at_call 100; with_reducible refine (unhide H1 _).mono ?_; rintro e w' ⟨rfl, h⟩; cases h) | (go_at_call 101; with_reducible refine (unhide H2 _).mono ?_; rintro e w3 ⟨rfl, hb3⟩; obtain ⟨q0, q1, q2, q3, q4, q5, q6, q7⟩ := unhide HQ w3 hb3))
          exact scan_end rfl rfl q6 q7 (by omega) (fun W' hW' => ⟨by rw [HSC.out], hW'⟩)
    · have hs0 : scanB ⟨no, kind, name, fields, note⟩ = (zeroB, 80) := by simp [scanB, hl]
      have HSC := hide hs0
      rw [hv] at e3
      have dl : ((fields.length : Int) != 3) = true := by simp; omega
      have dl2 : ((fields.length : Int) == 3) = false := by simp; omega
      subst hk
      have HB := hide (⟨b1, hb2⟩ : _ ∧ _)
      subst hv
      generalize fields.length = nf at *
      clear b0 b1 hb2 hlw h hs hs0 hl
      go_enter Tryz.func70, Tryz.ntmps70
      go_wp2
      obtain ⟨b1, hb2⟩ := unhide HB
      exact scan_end rfl rfl b1 hb2 (by omega) (fun W' hW' => ⟨by rw [HSC.out]; rfl, hW'⟩)
  · have hs0 : scanB ⟨no, kind, name, fields, note⟩ = (zeroB, 80) := by simp [scanB, hk]
    have HSC := hide hs0
    have dk : (kind != 1) = true := by simpa using hk
    have dk2 : (kind == 1) = false := by simpa using hk
    have HB := hide (⟨b1, hb2⟩ : _ ∧ _)
    clear b0 b1 hb2 hlw h hs hs0 hk hv
    go_enter Tryz.func70, Tryz.ntmps70
    go_wp2
    obtain ⟨b1, hb2⟩ := unhide HB
    exact scan_end rfl rfl b1 hb2 (by omega) (fun W' hW' => ⟨by rw [HSC.out]; rfl, hW'⟩)
end Go.Proofs.YtijiiapnbeljnaaGreatDoor

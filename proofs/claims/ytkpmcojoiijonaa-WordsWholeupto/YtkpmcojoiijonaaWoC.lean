/-
  Names: classOf, namesOf, told, Short, Long, Letter of package words.
-/
import Derived.Test.YtkpmcojoiijonaaWoSw
namespace Go.Proofs.Ytkpmcojoiijonaa
open Go.RowKit Go.PlainAid Go.Lib
/-- the class that has a name of that loose form; 0: none has -/
def classN (t : ByteArray) : Int :=
  if t = ⟨#[108]⟩ then 1 else if t = ⟨#[108, 101, 102, 116, 116, 111, 114, 105, 103, 104, 116]⟩ then 1 else
  if t = ⟨#[114]⟩ then 2 else if t = ⟨#[114, 105, 103, 104, 116, 116, 111, 108, 101, 102, 116]⟩ then 2 else
  if t = ⟨#[97, 108]⟩ then 3 else if t = ⟨#[97, 114, 97, 98, 105, 99, 108, 101, 116, 116, 101, 114]⟩ then 3 else
  if t = ⟨#[101, 110]⟩ then 4 else if t = ⟨#[101, 117, 114, 111, 112, 101, 97, 110, 110, 117, 109, 98, 101, 114]⟩ then 4 else
  if t = ⟨#[101, 115]⟩ then 5 else if t = ⟨#[101, 117, 114, 111, 112, 101, 97, 110, 115, 101, 112, 97, 114, 97, 116, 111, 114]⟩ then 5 else
  if t = ⟨#[101, 116]⟩ then 6 else if t = ⟨#[101, 117, 114, 111, 112, 101, 97, 110, 116, 101, 114, 109, 105, 110, 97, 116, 111, 114]⟩ then 6 else
  if t = ⟨#[97, 110]⟩ then 7 else if t = ⟨#[97, 114, 97, 98, 105, 99, 110, 117, 109, 98, 101, 114]⟩ then 7 else
  if t = ⟨#[99, 115]⟩ then 8 else if t = ⟨#[99, 111, 109, 109, 111, 110, 115, 101, 112, 97, 114, 97, 116, 111, 114]⟩ then 8 else
  if t = ⟨#[110, 115, 109]⟩ then 9 else if t = ⟨#[110, 111, 110, 115, 112, 97, 99, 105, 110, 103, 109, 97, 114, 107]⟩ then 9 else
  if t = ⟨#[98, 110]⟩ then 10 else if t = ⟨#[98, 111, 117, 110, 100, 97, 114, 121, 110, 101, 117, 116, 114, 97, 108]⟩ then 10 else
  if t = ⟨#[98]⟩ then 11 else if t = ⟨#[112, 97, 114, 97, 103, 114, 97, 112, 104, 115, 101, 112, 97, 114, 97, 116, 111, 114]⟩ then 11 else
  if t = ⟨#[115]⟩ then 12 else if t = ⟨#[115, 101, 103, 109, 101, 110, 116, 115, 101, 112, 97, 114, 97, 116, 111, 114]⟩ then 12 else
  if t = ⟨#[119, 115]⟩ then 13 else if t = ⟨#[119, 104, 105, 116, 101, 115, 112, 97, 99, 101]⟩ then 13 else
  if t = ⟨#[111, 110]⟩ then 14 else if t = ⟨#[111, 116, 104, 101, 114, 110, 101, 117, 116, 114, 97, 108]⟩ then 14 else
  if t = ⟨#[108, 114, 101]⟩ then 15 else if t = ⟨#[108, 101, 102, 116, 116, 111, 114, 105, 103, 104, 116, 101, 109, 98, 101, 100, 100, 105, 110, 103]⟩ then 15 else
  if t = ⟨#[108, 114, 111]⟩ then 16 else if t = ⟨#[108, 101, 102, 116, 116, 111, 114, 105, 103, 104, 116, 111, 118, 101, 114, 114, 105, 100, 101]⟩ then 16 else
  if t = ⟨#[114, 108, 101]⟩ then 17 else if t = ⟨#[114, 105, 103, 104, 116, 116, 111, 108, 101, 102, 116, 101, 109, 98, 101, 100, 100, 105, 110, 103]⟩ then 17 else
  if t = ⟨#[114, 108, 111]⟩ then 18 else if t = ⟨#[114, 105, 103, 104, 116, 116, 111, 108, 101, 102, 116, 111, 118, 101, 114, 114, 105, 100, 101]⟩ then 18 else
  if t = ⟨#[112, 100, 102]⟩ then 19 else if t = ⟨#[112, 111, 112, 100, 105, 114, 101, 99, 116, 105, 111, 110, 97, 108, 102, 111, 114, 109, 97, 116]⟩ then 19 else
  if t = ⟨#[108, 114, 105]⟩ then 20 else if t = ⟨#[108, 101, 102, 116, 116, 111, 114, 105, 103, 104, 116, 105, 115, 111, 108, 97, 116, 101]⟩ then 20 else
  if t = ⟨#[114, 108, 105]⟩ then 21 else if t = ⟨#[114, 105, 103, 104, 116, 116, 111, 108, 101, 102, 116, 105, 115, 111, 108, 97, 116, 101]⟩ then 21 else
  if t = ⟨#[102, 115, 105]⟩ then 22 else if t = ⟨#[102, 105, 114, 115, 116, 115, 116, 114, 111, 110, 103, 105, 115, 111, 108, 97, 116, 101]⟩ then 22 else
  if t = ⟨#[112, 100, 105]⟩ then 23 else if t = ⟨#[112, 111, 112, 100, 105, 114, 101, 99, 116, 105, 111, 110, 97, 108, 105, 115, 111, 108, 97, 116, 101]⟩ then 23 else
  0
/-- the short name of a class -/
def shortS (c : Int) : ByteArray :=
  if c = 1 then ⟨#[76]⟩ else
  if c = 2 then ⟨#[82]⟩ else
  if c = 3 then ⟨#[65, 76]⟩ else
  if c = 4 then ⟨#[69, 78]⟩ else
  if c = 5 then ⟨#[69, 83]⟩ else
  if c = 6 then ⟨#[69, 84]⟩ else
  if c = 7 then ⟨#[65, 78]⟩ else
  if c = 8 then ⟨#[67, 83]⟩ else
  if c = 9 then ⟨#[78, 83, 77]⟩ else
  if c = 10 then ⟨#[66, 78]⟩ else
  if c = 11 then ⟨#[66]⟩ else
  if c = 12 then ⟨#[83]⟩ else
  if c = 13 then ⟨#[87, 83]⟩ else
  if c = 14 then ⟨#[79, 78]⟩ else
  if c = 15 then ⟨#[76, 82, 69]⟩ else
  if c = 16 then ⟨#[76, 82, 79]⟩ else
  if c = 17 then ⟨#[82, 76, 69]⟩ else
  if c = 18 then ⟨#[82, 76, 79]⟩ else
  if c = 19 then ⟨#[80, 68, 70]⟩ else
  if c = 20 then ⟨#[76, 82, 73]⟩ else
  if c = 21 then ⟨#[82, 76, 73]⟩ else
  if c = 22 then ⟨#[70, 83, 73]⟩ else
  if c = 23 then ⟨#[80, 68, 73]⟩ else
  ⟨#[]⟩
/-- the long one -/
def longS (c : Int) : ByteArray :=
  if c = 1 then ⟨#[76, 101, 102, 116, 95, 84, 111, 95, 82, 105, 103, 104, 116]⟩ else
  if c = 2 then ⟨#[82, 105, 103, 104, 116, 95, 84, 111, 95, 76, 101, 102, 116]⟩ else
  if c = 3 then ⟨#[65, 114, 97, 98, 105, 99, 95, 76, 101, 116, 116, 101, 114]⟩ else
  if c = 4 then ⟨#[69, 117, 114, 111, 112, 101, 97, 110, 95, 78, 117, 109, 98, 101, 114]⟩ else
  if c = 5 then ⟨#[69, 117, 114, 111, 112, 101, 97, 110, 95, 83, 101, 112, 97, 114, 97, 116, 111, 114]⟩ else
  if c = 6 then ⟨#[69, 117, 114, 111, 112, 101, 97, 110, 95, 84, 101, 114, 109, 105, 110, 97, 116, 111, 114]⟩ else
  if c = 7 then ⟨#[65, 114, 97, 98, 105, 99, 95, 78, 117, 109, 98, 101, 114]⟩ else
  if c = 8 then ⟨#[67, 111, 109, 109, 111, 110, 95, 83, 101, 112, 97, 114, 97, 116, 111, 114]⟩ else
  if c = 9 then ⟨#[78, 111, 110, 115, 112, 97, 99, 105, 110, 103, 95, 77, 97, 114, 107]⟩ else
  if c = 10 then ⟨#[66, 111, 117, 110, 100, 97, 114, 121, 95, 78, 101, 117, 116, 114, 97, 108]⟩ else
  if c = 11 then ⟨#[80, 97, 114, 97, 103, 114, 97, 112, 104, 95, 83, 101, 112, 97, 114, 97, 116, 111, 114]⟩ else
  if c = 12 then ⟨#[83, 101, 103, 109, 101, 110, 116, 95, 83, 101, 112, 97, 114, 97, 116, 111, 114]⟩ else
  if c = 13 then ⟨#[87, 104, 105, 116, 101, 95, 83, 112, 97, 99, 101]⟩ else
  if c = 14 then ⟨#[79, 116, 104, 101, 114, 95, 78, 101, 117, 116, 114, 97, 108]⟩ else
  if c = 15 then ⟨#[76, 101, 102, 116, 95, 84, 111, 95, 82, 105, 103, 104, 116, 95, 69, 109, 98, 101, 100, 100, 105, 110, 103]⟩ else
  if c = 16 then ⟨#[76, 101, 102, 116, 95, 84, 111, 95, 82, 105, 103, 104, 116, 95, 79, 118, 101, 114, 114, 105, 100, 101]⟩ else
  if c = 17 then ⟨#[82, 105, 103, 104, 116, 95, 84, 111, 95, 76, 101, 102, 116, 95, 69, 109, 98, 101, 100, 100, 105, 110, 103]⟩ else
  if c = 18 then ⟨#[82, 105, 103, 104, 116, 95, 84, 111, 95, 76, 101, 102, 116, 95, 79, 118, 101, 114, 114, 105, 100, 101]⟩ else
  if c = 19 then ⟨#[80, 111, 112, 95, 68, 105, 114, 101, 99, 116, 105, 111, 110, 97, 108, 95, 70, 111, 114, 109, 97, 116]⟩ else
  if c = 20 then ⟨#[76, 101, 102, 116, 95, 84, 111, 95, 82, 105, 103, 104, 116, 95, 73, 115, 111, 108, 97, 116, 101]⟩ else
  if c = 21 then ⟨#[82, 105, 103, 104, 116, 95, 84, 111, 95, 76, 101, 102, 116, 95, 73, 115, 111, 108, 97, 116, 101]⟩ else
  if c = 22 then ⟨#[70, 105, 114, 115, 116, 95, 83, 116, 114, 111, 110, 103, 95, 73, 115, 111, 108, 97, 116, 101]⟩ else
  if c = 23 then ⟨#[80, 111, 112, 95, 68, 105, 114, 101, 99, 116, 105, 111, 110, 97, 108, 95, 73, 115, 111, 108, 97, 116, 101]⟩ else
  ⟨#[]⟩
theorem ret_str2 {a b : ByteArray} {k : IntKind} {x y : Int} (h : a = b) (h' : x = y) : Ending.returned (.tuple #[.string a, .int k x]) = .returned (.tuple #[.string b, .int k y]) := by rw [h, h']
theorem ret_two {u v x y : Value} (h : u = x) (h' : v = y) : Ending.returned (.tuple #[u, v]) = .returned (.tuple #[x, y]) := by rw [h, h']
theorem ret_one {u x : Value} (h : u = x) : Ending.returned u = .returned x := by rw [h]
set_option maxRecDepth 100000 in
set_option maxHeartbeats 4000000 in
theorem classOf_any (t : ByteArray) (w : World) :
    Calls Try.prog 47 #[.string t] w fun e w' => e = .returned (.int .u8 (classN t)) ∧ w' = w := by
  refine calls_of_wp Try.func47 rfl ?_
  simp only [Try.ntmps47, List.size_toArray, List.length_cons, List.length_nil, Nat.reduceAdd, Nat.reduceSub]
  have hfin : ∀ a' : Act, a'.tmps.getD 2 undef = .int .u8 (classN t) → a'.defers = [] → bodyPost Try.prog Try.f47 (fun e w' => e = .returned (.int .u8 (classN t)) ∧ w' = w) .ret a' w := fun a' h1 h2 => bodyPost_ret (results_tmp rfl _ _ _) h2 ⟨ret_one h1, rfl⟩
  refine wp_seq (Go.Switch.layC ?_)
  refine wp_seq (wp_seq (Go.Switch.layM ?_))
  refine wp_block ?_
  obtain ⟨z1, z2, z3⟩ := Go.Switch.start1 (.string t) undef (.int .u8 0) 72 2 3 [] _ _ _ rfl rfl rfl (by decide) (by decide) (by decide)
  simp only [Nat.reduceAdd] at z1
  generalize Act.put _ (some 3) _ = a at *
  refine Go.Switch.case2 (t := t) 73 z1 z2 (by decide) (by decide) (by decide) (by decide) (by decide) (by decide) (fun h a0 s0 d0 => Go.Switch.give1 73 s0 (by decide) (fun a' r d => hfin a' (r.trans ?_) ((d.trans d0).trans z3))) (fun x0 y0 a0 s0 g0 d0 => ?_)
  · unfold classN
    by_cases h' : t = ⟨#[108]⟩
    · rw [if_pos h']
    · rw [if_neg h', if_pos (h.resolve_left h')]
  refine Go.Switch.case2 (t := t) 73 s0 g0 (by decide) (by decide) (by decide) (by decide) (by decide) (by decide) (fun h a1 s1 d1 => Go.Switch.give1 73 s1 (by decide) (fun a' r d => hfin a' (r.trans ?_) (((d.trans d1).trans d0).trans z3))) (fun x1 y1 a1 s1 g1 d1 => ?_)
  · unfold classN
    by_cases h' : t = ⟨#[114]⟩
    · rw [if_neg x0, if_neg y0, if_pos h']
    · rw [if_neg x0, if_neg y0, if_neg h', if_pos (h.resolve_left h')]
  refine Go.Switch.case2 (t := t) 73 s1 g1 (by decide) (by decide) (by decide) (by decide) (by decide) (by decide) (fun h a2 s2 d2 => Go.Switch.give1 73 s2 (by decide) (fun a' r d => hfin a' (r.trans ?_) ((((d.trans d2).trans d1).trans d0).trans z3))) (fun x2 y2 a2 s2 g2 d2 => ?_)
  · unfold classN
    by_cases h' : t = ⟨#[97, 108]⟩
    · rw [if_neg x0, if_neg y0, if_neg x1, if_neg y1, if_pos h']
    · rw [if_neg x0, if_neg y0, if_neg x1, if_neg y1, if_neg h', if_pos (h.resolve_left h')]
  refine Go.Switch.case2 (t := t) 73 s2 g2 (by decide) (by decide) (by decide) (by decide) (by decide) (by decide) (fun h a3 s3 d3 => Go.Switch.give1 73 s3 (by decide) (fun a' r d => hfin a' (r.trans ?_) (((((d.trans d3).trans d2).trans d1).trans d0).trans z3))) (fun x3 y3 a3 s3 g3 d3 => ?_)
  · unfold classN
    by_cases h' : t = ⟨#[101, 110]⟩
    · rw [if_neg x0, if_neg y0, if_neg x1, if_neg y1, if_neg x2, if_neg y2, if_pos h']
    · rw [if_neg x0, if_neg y0, if_neg x1, if_neg y1, if_neg x2, if_neg y2, if_neg h', if_pos (h.resolve_left h')]
  refine Go.Switch.case2 (t := t) 73 s3 g3 (by decide) (by decide) (by decide) (by decide) (by decide) (by decide) (fun h a4 s4 d4 => Go.Switch.give1 73 s4 (by decide) (fun a' r d => hfin a' (r.trans ?_) ((((((d.trans d4).trans d3).trans d2).trans d1).trans d0).trans z3))) (fun x4 y4 a4 s4 g4 d4 => ?_)
  · unfold classN
    by_cases h' : t = ⟨#[101, 115]⟩
    · rw [if_neg x0, if_neg y0, if_neg x1, if_neg y1, if_neg x2, if_neg y2, if_neg x3, if_neg y3, if_pos h']
    · rw [if_neg x0, if_neg y0, if_neg x1, if_neg y1, if_neg x2, if_neg y2, if_neg x3, if_neg y3, if_neg h', if_pos (h.resolve_left h')]
  refine Go.Switch.case2 (t := t) 73 s4 g4 (by decide) (by decide) (by decide) (by decide) (by decide) (by decide) (fun h a5 s5 d5 => Go.Switch.give1 73 s5 (by decide) (fun a' r d => hfin a' (r.trans ?_) (((((((d.trans d5).trans d4).trans d3).trans d2).trans d1).trans d0).trans z3))) (fun x5 y5 a5 s5 g5 d5 => ?_)
  · unfold classN
    by_cases h' : t = ⟨#[101, 116]⟩
    · rw [if_neg x0, if_neg y0, if_neg x1, if_neg y1, if_neg x2, if_neg y2, if_neg x3, if_neg y3, if_neg x4, if_neg y4, if_pos h']
    · rw [if_neg x0, if_neg y0, if_neg x1, if_neg y1, if_neg x2, if_neg y2, if_neg x3, if_neg y3, if_neg x4, if_neg y4, if_neg h', if_pos (h.resolve_left h')]
  refine Go.Switch.case2 (t := t) 73 s5 g5 (by decide) (by decide) (by decide) (by decide) (by decide) (by decide) (fun h a6 s6 d6 => Go.Switch.give1 73 s6 (by decide) (fun a' r d => hfin a' (r.trans ?_) ((((((((d.trans d6).trans d5).trans d4).trans d3).trans d2).trans d1).trans d0).trans z3))) (fun x6 y6 a6 s6 g6 d6 => ?_)
  · unfold classN
    by_cases h' : t = ⟨#[97, 110]⟩
    · rw [if_neg x0, if_neg y0, if_neg x1, if_neg y1, if_neg x2, if_neg y2, if_neg x3, if_neg y3, if_neg x4, if_neg y4, if_neg x5, if_neg y5, if_pos h']
    · rw [if_neg x0, if_neg y0, if_neg x1, if_neg y1, if_neg x2, if_neg y2, if_neg x3, if_neg y3, if_neg x4, if_neg y4, if_neg x5, if_neg y5, if_neg h', if_pos (h.resolve_left h')]
  refine Go.Switch.case2 (t := t) 73 s6 g6 (by decide) (by decide) (by decide) (by decide) (by decide) (by decide) (fun h a7 s7 d7 => Go.Switch.give1 73 s7 (by decide) (fun a' r d => hfin a' (r.trans ?_) (((((((((d.trans d7).trans d6).trans d5).trans d4).trans d3).trans d2).trans d1).trans d0).trans z3))) (fun x7 y7 a7 s7 g7 d7 => ?_)
  · unfold classN
    by_cases h' : t = ⟨#[99, 115]⟩
    · rw [if_neg x0, if_neg y0, if_neg x1, if_neg y1, if_neg x2, if_neg y2, if_neg x3, if_neg y3, if_neg x4, if_neg y4, if_neg x5, if_neg y5, if_neg x6, if_neg y6, if_pos h']
    · rw [if_neg x0, if_neg y0, if_neg x1, if_neg y1, if_neg x2, if_neg y2, if_neg x3, if_neg y3, if_neg x4, if_neg y4, if_neg x5, if_neg y5, if_neg x6, if_neg y6, if_neg h', if_pos (h.resolve_left h')]
  refine Go.Switch.case2 (t := t) 73 s7 g7 (by decide) (by decide) (by decide) (by decide) (by decide) (by decide) (fun h a8 s8 d8 => Go.Switch.give1 73 s8 (by decide) (fun a' r d => hfin a' (r.trans ?_) ((((((((((d.trans d8).trans d7).trans d6).trans d5).trans d4).trans d3).trans d2).trans d1).trans d0).trans z3))) (fun x8 y8 a8 s8 g8 d8 => ?_)
  · unfold classN
    by_cases h' : t = ⟨#[110, 115, 109]⟩
    · rw [if_neg x0, if_neg y0, if_neg x1, if_neg y1, if_neg x2, if_neg y2, if_neg x3, if_neg y3, if_neg x4, if_neg y4, if_neg x5, if_neg y5, if_neg x6, if_neg y6, if_neg x7, if_neg y7, if_pos h']
    · rw [if_neg x0, if_neg y0, if_neg x1, if_neg y1, if_neg x2, if_neg y2, if_neg x3, if_neg y3, if_neg x4, if_neg y4, if_neg x5, if_neg y5, if_neg x6, if_neg y6, if_neg x7, if_neg y7, if_neg h', if_pos (h.resolve_left h')]
  refine Go.Switch.case2 (t := t) 73 s8 g8 (by decide) (by decide) (by decide) (by decide) (by decide) (by decide) (fun h a9 s9 d9 => Go.Switch.give1 73 s9 (by decide) (fun a' r d => hfin a' (r.trans ?_) (((((((((((d.trans d9).trans d8).trans d7).trans d6).trans d5).trans d4).trans d3).trans d2).trans d1).trans d0).trans z3))) (fun x9 y9 a9 s9 g9 d9 => ?_)
  · unfold classN
    by_cases h' : t = ⟨#[98, 110]⟩
    · rw [if_neg x0, if_neg y0, if_neg x1, if_neg y1, if_neg x2, if_neg y2, if_neg x3, if_neg y3, if_neg x4, if_neg y4, if_neg x5, if_neg y5, if_neg x6, if_neg y6, if_neg x7, if_neg y7, if_neg x8, if_neg y8, if_pos h']
    · rw [if_neg x0, if_neg y0, if_neg x1, if_neg y1, if_neg x2, if_neg y2, if_neg x3, if_neg y3, if_neg x4, if_neg y4, if_neg x5, if_neg y5, if_neg x6, if_neg y6, if_neg x7, if_neg y7, if_neg x8, if_neg y8, if_neg h', if_pos (h.resolve_left h')]
  refine Go.Switch.case2 (t := t) 73 s9 g9 (by decide) (by decide) (by decide) (by decide) (by decide) (by decide) (fun h a10 s10 d10 => Go.Switch.give1 73 s10 (by decide) (fun a' r d => hfin a' (r.trans ?_) ((((((((((((d.trans d10).trans d9).trans d8).trans d7).trans d6).trans d5).trans d4).trans d3).trans d2).trans d1).trans d0).trans z3))) (fun x10 y10 a10 s10 g10 d10 => ?_)
  · unfold classN
    by_cases h' : t = ⟨#[98]⟩
    · rw [if_neg x0, if_neg y0, if_neg x1, if_neg y1, if_neg x2, if_neg y2, if_neg x3, if_neg y3, if_neg x4, if_neg y4, if_neg x5, if_neg y5, if_neg x6, if_neg y6, if_neg x7, if_neg y7, if_neg x8, if_neg y8, if_neg x9, if_neg y9, if_pos h']
    · rw [if_neg x0, if_neg y0, if_neg x1, if_neg y1, if_neg x2, if_neg y2, if_neg x3, if_neg y3, if_neg x4, if_neg y4, if_neg x5, if_neg y5, if_neg x6, if_neg y6, if_neg x7, if_neg y7, if_neg x8, if_neg y8, if_neg x9, if_neg y9, if_neg h', if_pos (h.resolve_left h')]
  refine Go.Switch.case2 (t := t) 73 s10 g10 (by decide) (by decide) (by decide) (by decide) (by decide) (by decide) (fun h a11 s11 d11 => Go.Switch.give1 73 s11 (by decide) (fun a' r d => hfin a' (r.trans ?_) (((((((((((((d.trans d11).trans d10).trans d9).trans d8).trans d7).trans d6).trans d5).trans d4).trans d3).trans d2).trans d1).trans d0).trans z3))) (fun x11 y11 a11 s11 g11 d11 => ?_)
  · unfold classN
    by_cases h' : t = ⟨#[115]⟩
    · rw [if_neg x0, if_neg y0, if_neg x1, if_neg y1, if_neg x2, if_neg y2, if_neg x3, if_neg y3, if_neg x4, if_neg y4, if_neg x5, if_neg y5, if_neg x6, if_neg y6, if_neg x7, if_neg y7, if_neg x8, if_neg y8, if_neg x9, if_neg y9, if_neg x10, if_neg y10, if_pos h']
    · rw [if_neg x0, if_neg y0, if_neg x1, if_neg y1, if_neg x2, if_neg y2, if_neg x3, if_neg y3, if_neg x4, if_neg y4, if_neg x5, if_neg y5, if_neg x6, if_neg y6, if_neg x7, if_neg y7, if_neg x8, if_neg y8, if_neg x9, if_neg y9, if_neg x10, if_neg y10, if_neg h', if_pos (h.resolve_left h')]
  refine Go.Switch.case2 (t := t) 73 s11 g11 (by decide) (by decide) (by decide) (by decide) (by decide) (by decide) (fun h a12 s12 d12 => Go.Switch.give1 73 s12 (by decide) (fun a' r d => hfin a' (r.trans ?_) ((((((((((((((d.trans d12).trans d11).trans d10).trans d9).trans d8).trans d7).trans d6).trans d5).trans d4).trans d3).trans d2).trans d1).trans d0).trans z3))) (fun x12 y12 a12 s12 g12 d12 => ?_)
  · unfold classN
    by_cases h' : t = ⟨#[119, 115]⟩
    · rw [if_neg x0, if_neg y0, if_neg x1, if_neg y1, if_neg x2, if_neg y2, if_neg x3, if_neg y3, if_neg x4, if_neg y4, if_neg x5, if_neg y5, if_neg x6, if_neg y6, if_neg x7, if_neg y7, if_neg x8, if_neg y8, if_neg x9, if_neg y9, if_neg x10, if_neg y10, if_neg x11, if_neg y11, if_pos h']
    · rw [if_neg x0, if_neg y0, if_neg x1, if_neg y1, if_neg x2, if_neg y2, if_neg x3, if_neg y3, if_neg x4, if_neg y4, if_neg x5, if_neg y5, if_neg x6, if_neg y6, if_neg x7, if_neg y7, if_neg x8, if_neg y8, if_neg x9, if_neg y9, if_neg x10, if_neg y10, if_neg x11, if_neg y11, if_neg h', if_pos (h.resolve_left h')]
  refine Go.Switch.case2 (t := t) 73 s12 g12 (by decide) (by decide) (by decide) (by decide) (by decide) (by decide) (fun h a13 s13 d13 => Go.Switch.give1 73 s13 (by decide) (fun a' r d => hfin a' (r.trans ?_) (((((((((((((((d.trans d13).trans d12).trans d11).trans d10).trans d9).trans d8).trans d7).trans d6).trans d5).trans d4).trans d3).trans d2).trans d1).trans d0).trans z3))) (fun x13 y13 a13 s13 g13 d13 => ?_)
  · unfold classN
    by_cases h' : t = ⟨#[111, 110]⟩
    · rw [if_neg x0, if_neg y0, if_neg x1, if_neg y1, if_neg x2, if_neg y2, if_neg x3, if_neg y3, if_neg x4, if_neg y4, if_neg x5, if_neg y5, if_neg x6, if_neg y6, if_neg x7, if_neg y7, if_neg x8, if_neg y8, if_neg x9, if_neg y9, if_neg x10, if_neg y10, if_neg x11, if_neg y11, if_neg x12, if_neg y12, if_pos h']
    · rw [if_neg x0, if_neg y0, if_neg x1, if_neg y1, if_neg x2, if_neg y2, if_neg x3, if_neg y3, if_neg x4, if_neg y4, if_neg x5, if_neg y5, if_neg x6, if_neg y6, if_neg x7, if_neg y7, if_neg x8, if_neg y8, if_neg x9, if_neg y9, if_neg x10, if_neg y10, if_neg x11, if_neg y11, if_neg x12, if_neg y12, if_neg h', if_pos (h.resolve_left h')]
  refine Go.Switch.case2 (t := t) 73 s13 g13 (by decide) (by decide) (by decide) (by decide) (by decide) (by decide) (fun h a14 s14 d14 => Go.Switch.give1 73 s14 (by decide) (fun a' r d => hfin a' (r.trans ?_) ((((((((((((((((d.trans d14).trans d13).trans d12).trans d11).trans d10).trans d9).trans d8).trans d7).trans d6).trans d5).trans d4).trans d3).trans d2).trans d1).trans d0).trans z3))) (fun x14 y14 a14 s14 g14 d14 => ?_)
  · unfold classN
    by_cases h' : t = ⟨#[108, 114, 101]⟩
    · rw [if_neg x0, if_neg y0, if_neg x1, if_neg y1, if_neg x2, if_neg y2, if_neg x3, if_neg y3, if_neg x4, if_neg y4, if_neg x5, if_neg y5, if_neg x6, if_neg y6, if_neg x7, if_neg y7, if_neg x8, if_neg y8, if_neg x9, if_neg y9, if_neg x10, if_neg y10, if_neg x11, if_neg y11, if_neg x12, if_neg y12, if_neg x13, if_neg y13, if_pos h']
    · rw [if_neg x0, if_neg y0, if_neg x1, if_neg y1, if_neg x2, if_neg y2, if_neg x3, if_neg y3, if_neg x4, if_neg y4, if_neg x5, if_neg y5, if_neg x6, if_neg y6, if_neg x7, if_neg y7, if_neg x8, if_neg y8, if_neg x9, if_neg y9, if_neg x10, if_neg y10, if_neg x11, if_neg y11, if_neg x12, if_neg y12, if_neg x13, if_neg y13, if_neg h', if_pos (h.resolve_left h')]
  refine Go.Switch.case2 (t := t) 73 s14 g14 (by decide) (by decide) (by decide) (by decide) (by decide) (by decide) (fun h a15 s15 d15 => Go.Switch.give1 73 s15 (by decide) (fun a' r d => hfin a' (r.trans ?_) (((((((((((((((((d.trans d15).trans d14).trans d13).trans d12).trans d11).trans d10).trans d9).trans d8).trans d7).trans d6).trans d5).trans d4).trans d3).trans d2).trans d1).trans d0).trans z3))) (fun x15 y15 a15 s15 g15 d15 => ?_)
  · unfold classN
    by_cases h' : t = ⟨#[108, 114, 111]⟩
    · rw [if_neg x0, if_neg y0, if_neg x1, if_neg y1, if_neg x2, if_neg y2, if_neg x3, if_neg y3, if_neg x4, if_neg y4, if_neg x5, if_neg y5, if_neg x6, if_neg y6, if_neg x7, if_neg y7, if_neg x8, if_neg y8, if_neg x9, if_neg y9, if_neg x10, if_neg y10, if_neg x11, if_neg y11, if_neg x12, if_neg y12, if_neg x13, if_neg y13, if_neg x14, if_neg y14, if_pos h']
    · rw [if_neg x0, if_neg y0, if_neg x1, if_neg y1, if_neg x2, if_neg y2, if_neg x3, if_neg y3, if_neg x4, if_neg y4, if_neg x5, if_neg y5, if_neg x6, if_neg y6, if_neg x7, if_neg y7, if_neg x8, if_neg y8, if_neg x9, if_neg y9, if_neg x10, if_neg y10, if_neg x11, if_neg y11, if_neg x12, if_neg y12, if_neg x13, if_neg y13, if_neg x14, if_neg y14, if_neg h', if_pos (h.resolve_left h')]
  refine Go.Switch.case2 (t := t) 73 s15 g15 (by decide) (by decide) (by decide) (by decide) (by decide) (by decide) (fun h a16 s16 d16 => Go.Switch.give1 73 s16 (by decide) (fun a' r d => hfin a' (r.trans ?_) ((((((((((((((((((d.trans d16).trans d15).trans d14).trans d13).trans d12).trans d11).trans d10).trans d9).trans d8).trans d7).trans d6).trans d5).trans d4).trans d3).trans d2).trans d1).trans d0).trans z3))) (fun x16 y16 a16 s16 g16 d16 => ?_)
  · unfold classN
    by_cases h' : t = ⟨#[114, 108, 101]⟩
    · rw [if_neg x0, if_neg y0, if_neg x1, if_neg y1, if_neg x2, if_neg y2, if_neg x3, if_neg y3, if_neg x4, if_neg y4, if_neg x5, if_neg y5, if_neg x6, if_neg y6, if_neg x7, if_neg y7, if_neg x8, if_neg y8, if_neg x9, if_neg y9, if_neg x10, if_neg y10, if_neg x11, if_neg y11, if_neg x12, if_neg y12, if_neg x13, if_neg y13, if_neg x14, if_neg y14, if_neg x15, if_neg y15, if_pos h']
    · rw [if_neg x0, if_neg y0, if_neg x1, if_neg y1, if_neg x2, if_neg y2, if_neg x3, if_neg y3, if_neg x4, if_neg y4, if_neg x5, if_neg y5, if_neg x6, if_neg y6, if_neg x7, if_neg y7, if_neg x8, if_neg y8, if_neg x9, if_neg y9, if_neg x10, if_neg y10, if_neg x11, if_neg y11, if_neg x12, if_neg y12, if_neg x13, if_neg y13, if_neg x14, if_neg y14, if_neg x15, if_neg y15, if_neg h', if_pos (h.resolve_left h')]
  refine Go.Switch.case2 (t := t) 73 s16 g16 (by decide) (by decide) (by decide) (by decide) (by decide) (by decide) (fun h a17 s17 d17 => Go.Switch.give1 73 s17 (by decide) (fun a' r d => hfin a' (r.trans ?_) (((((((((((((((((((d.trans d17).trans d16).trans d15).trans d14).trans d13).trans d12).trans d11).trans d10).trans d9).trans d8).trans d7).trans d6).trans d5).trans d4).trans d3).trans d2).trans d1).trans d0).trans z3))) (fun x17 y17 a17 s17 g17 d17 => ?_)
  · unfold classN
    by_cases h' : t = ⟨#[114, 108, 111]⟩
    · rw [if_neg x0, if_neg y0, if_neg x1, if_neg y1, if_neg x2, if_neg y2, if_neg x3, if_neg y3, if_neg x4, if_neg y4, if_neg x5, if_neg y5, if_neg x6, if_neg y6, if_neg x7, if_neg y7, if_neg x8, if_neg y8, if_neg x9, if_neg y9, if_neg x10, if_neg y10, if_neg x11, if_neg y11, if_neg x12, if_neg y12, if_neg x13, if_neg y13, if_neg x14, if_neg y14, if_neg x15, if_neg y15, if_neg x16, if_neg y16, if_pos h']
    · rw [if_neg x0, if_neg y0, if_neg x1, if_neg y1, if_neg x2, if_neg y2, if_neg x3, if_neg y3, if_neg x4, if_neg y4, if_neg x5, if_neg y5, if_neg x6, if_neg y6, if_neg x7, if_neg y7, if_neg x8, if_neg y8, if_neg x9, if_neg y9, if_neg x10, if_neg y10, if_neg x11, if_neg y11, if_neg x12, if_neg y12, if_neg x13, if_neg y13, if_neg x14, if_neg y14, if_neg x15, if_neg y15, if_neg x16, if_neg y16, if_neg h', if_pos (h.resolve_left h')]
  refine Go.Switch.case2 (t := t) 73 s17 g17 (by decide) (by decide) (by decide) (by decide) (by decide) (by decide) (fun h a18 s18 d18 => Go.Switch.give1 73 s18 (by decide) (fun a' r d => hfin a' (r.trans ?_) ((((((((((((((((((((d.trans d18).trans d17).trans d16).trans d15).trans d14).trans d13).trans d12).trans d11).trans d10).trans d9).trans d8).trans d7).trans d6).trans d5).trans d4).trans d3).trans d2).trans d1).trans d0).trans z3))) (fun x18 y18 a18 s18 g18 d18 => ?_)
  · unfold classN
    by_cases h' : t = ⟨#[112, 100, 102]⟩
    · rw [if_neg x0, if_neg y0, if_neg x1, if_neg y1, if_neg x2, if_neg y2, if_neg x3, if_neg y3, if_neg x4, if_neg y4, if_neg x5, if_neg y5, if_neg x6, if_neg y6, if_neg x7, if_neg y7, if_neg x8, if_neg y8, if_neg x9, if_neg y9, if_neg x10, if_neg y10, if_neg x11, if_neg y11, if_neg x12, if_neg y12, if_neg x13, if_neg y13, if_neg x14, if_neg y14, if_neg x15, if_neg y15, if_neg x16, if_neg y16, if_neg x17, if_neg y17, if_pos h']
    · rw [if_neg x0, if_neg y0, if_neg x1, if_neg y1, if_neg x2, if_neg y2, if_neg x3, if_neg y3, if_neg x4, if_neg y4, if_neg x5, if_neg y5, if_neg x6, if_neg y6, if_neg x7, if_neg y7, if_neg x8, if_neg y8, if_neg x9, if_neg y9, if_neg x10, if_neg y10, if_neg x11, if_neg y11, if_neg x12, if_neg y12, if_neg x13, if_neg y13, if_neg x14, if_neg y14, if_neg x15, if_neg y15, if_neg x16, if_neg y16, if_neg x17, if_neg y17, if_neg h', if_pos (h.resolve_left h')]
  refine Go.Switch.case2 (t := t) 73 s18 g18 (by decide) (by decide) (by decide) (by decide) (by decide) (by decide) (fun h a19 s19 d19 => Go.Switch.give1 73 s19 (by decide) (fun a' r d => hfin a' (r.trans ?_) (((((((((((((((((((((d.trans d19).trans d18).trans d17).trans d16).trans d15).trans d14).trans d13).trans d12).trans d11).trans d10).trans d9).trans d8).trans d7).trans d6).trans d5).trans d4).trans d3).trans d2).trans d1).trans d0).trans z3))) (fun x19 y19 a19 s19 g19 d19 => ?_)
  · unfold classN
    by_cases h' : t = ⟨#[108, 114, 105]⟩
    · rw [if_neg x0, if_neg y0, if_neg x1, if_neg y1, if_neg x2, if_neg y2, if_neg x3, if_neg y3, if_neg x4, if_neg y4, if_neg x5, if_neg y5, if_neg x6, if_neg y6, if_neg x7, if_neg y7, if_neg x8, if_neg y8, if_neg x9, if_neg y9, if_neg x10, if_neg y10, if_neg x11, if_neg y11, if_neg x12, if_neg y12, if_neg x13, if_neg y13, if_neg x14, if_neg y14, if_neg x15, if_neg y15, if_neg x16, if_neg y16, if_neg x17, if_neg y17, if_neg x18, if_neg y18, if_pos h']
    · rw [if_neg x0, if_neg y0, if_neg x1, if_neg y1, if_neg x2, if_neg y2, if_neg x3, if_neg y3, if_neg x4, if_neg y4, if_neg x5, if_neg y5, if_neg x6, if_neg y6, if_neg x7, if_neg y7, if_neg x8, if_neg y8, if_neg x9, if_neg y9, if_neg x10, if_neg y10, if_neg x11, if_neg y11, if_neg x12, if_neg y12, if_neg x13, if_neg y13, if_neg x14, if_neg y14, if_neg x15, if_neg y15, if_neg x16, if_neg y16, if_neg x17, if_neg y17, if_neg x18, if_neg y18, if_neg h', if_pos (h.resolve_left h')]
  refine Go.Switch.case2 (t := t) 73 s19 g19 (by decide) (by decide) (by decide) (by decide) (by decide) (by decide) (fun h a20 s20 d20 => Go.Switch.give1 73 s20 (by decide) (fun a' r d => hfin a' (r.trans ?_) ((((((((((((((((((((((d.trans d20).trans d19).trans d18).trans d17).trans d16).trans d15).trans d14).trans d13).trans d12).trans d11).trans d10).trans d9).trans d8).trans d7).trans d6).trans d5).trans d4).trans d3).trans d2).trans d1).trans d0).trans z3))) (fun x20 y20 a20 s20 g20 d20 => ?_)
  · unfold classN
    by_cases h' : t = ⟨#[114, 108, 105]⟩
    · rw [if_neg x0, if_neg y0, if_neg x1, if_neg y1, if_neg x2, if_neg y2, if_neg x3, if_neg y3, if_neg x4, if_neg y4, if_neg x5, if_neg y5, if_neg x6, if_neg y6, if_neg x7, if_neg y7, if_neg x8, if_neg y8, if_neg x9, if_neg y9, if_neg x10, if_neg y10, if_neg x11, if_neg y11, if_neg x12, if_neg y12, if_neg x13, if_neg y13, if_neg x14, if_neg y14, if_neg x15, if_neg y15, if_neg x16, if_neg y16, if_neg x17, if_neg y17, if_neg x18, if_neg y18, if_neg x19, if_neg y19, if_pos h']
    · rw [if_neg x0, if_neg y0, if_neg x1, if_neg y1, if_neg x2, if_neg y2, if_neg x3, if_neg y3, if_neg x4, if_neg y4, if_neg x5, if_neg y5, if_neg x6, if_neg y6, if_neg x7, if_neg y7, if_neg x8, if_neg y8, if_neg x9, if_neg y9, if_neg x10, if_neg y10, if_neg x11, if_neg y11, if_neg x12, if_neg y12, if_neg x13, if_neg y13, if_neg x14, if_neg y14, if_neg x15, if_neg y15, if_neg x16, if_neg y16, if_neg x17, if_neg y17, if_neg x18, if_neg y18, if_neg x19, if_neg y19, if_neg h', if_pos (h.resolve_left h')]
  refine Go.Switch.case2 (t := t) 73 s20 g20 (by decide) (by decide) (by decide) (by decide) (by decide) (by decide) (fun h a21 s21 d21 => Go.Switch.give1 73 s21 (by decide) (fun a' r d => hfin a' (r.trans ?_) (((((((((((((((((((((((d.trans d21).trans d20).trans d19).trans d18).trans d17).trans d16).trans d15).trans d14).trans d13).trans d12).trans d11).trans d10).trans d9).trans d8).trans d7).trans d6).trans d5).trans d4).trans d3).trans d2).trans d1).trans d0).trans z3))) (fun x21 y21 a21 s21 g21 d21 => ?_)
  · unfold classN
    by_cases h' : t = ⟨#[102, 115, 105]⟩
    · rw [if_neg x0, if_neg y0, if_neg x1, if_neg y1, if_neg x2, if_neg y2, if_neg x3, if_neg y3, if_neg x4, if_neg y4, if_neg x5, if_neg y5, if_neg x6, if_neg y6, if_neg x7, if_neg y7, if_neg x8, if_neg y8, if_neg x9, if_neg y9, if_neg x10, if_neg y10, if_neg x11, if_neg y11, if_neg x12, if_neg y12, if_neg x13, if_neg y13, if_neg x14, if_neg y14, if_neg x15, if_neg y15, if_neg x16, if_neg y16, if_neg x17, if_neg y17, if_neg x18, if_neg y18, if_neg x19, if_neg y19, if_neg x20, if_neg y20, if_pos h']
    · rw [if_neg x0, if_neg y0, if_neg x1, if_neg y1, if_neg x2, if_neg y2, if_neg x3, if_neg y3, if_neg x4, if_neg y4, if_neg x5, if_neg y5, if_neg x6, if_neg y6, if_neg x7, if_neg y7, if_neg x8, if_neg y8, if_neg x9, if_neg y9, if_neg x10, if_neg y10, if_neg x11, if_neg y11, if_neg x12, if_neg y12, if_neg x13, if_neg y13, if_neg x14, if_neg y14, if_neg x15, if_neg y15, if_neg x16, if_neg y16, if_neg x17, if_neg y17, if_neg x18, if_neg y18, if_neg x19, if_neg y19, if_neg x20, if_neg y20, if_neg h', if_pos (h.resolve_left h')]
  refine Go.Switch.case2 (t := t) 73 s21 g21 (by decide) (by decide) (by decide) (by decide) (by decide) (by decide) (fun h a22 s22 d22 => Go.Switch.give1 73 s22 (by decide) (fun a' r d => hfin a' (r.trans ?_) ((((((((((((((((((((((((d.trans d22).trans d21).trans d20).trans d19).trans d18).trans d17).trans d16).trans d15).trans d14).trans d13).trans d12).trans d11).trans d10).trans d9).trans d8).trans d7).trans d6).trans d5).trans d4).trans d3).trans d2).trans d1).trans d0).trans z3))) (fun x22 y22 a22 s22 g22 d22 => ?_)
  · unfold classN
    by_cases h' : t = ⟨#[112, 100, 105]⟩
    · rw [if_neg x0, if_neg y0, if_neg x1, if_neg y1, if_neg x2, if_neg y2, if_neg x3, if_neg y3, if_neg x4, if_neg y4, if_neg x5, if_neg y5, if_neg x6, if_neg y6, if_neg x7, if_neg y7, if_neg x8, if_neg y8, if_neg x9, if_neg y9, if_neg x10, if_neg y10, if_neg x11, if_neg y11, if_neg x12, if_neg y12, if_neg x13, if_neg y13, if_neg x14, if_neg y14, if_neg x15, if_neg y15, if_neg x16, if_neg y16, if_neg x17, if_neg y17, if_neg x18, if_neg y18, if_neg x19, if_neg y19, if_neg x20, if_neg y20, if_neg x21, if_neg y21, if_pos h']
    · rw [if_neg x0, if_neg y0, if_neg x1, if_neg y1, if_neg x2, if_neg y2, if_neg x3, if_neg y3, if_neg x4, if_neg y4, if_neg x5, if_neg y5, if_neg x6, if_neg y6, if_neg x7, if_neg y7, if_neg x8, if_neg y8, if_neg x9, if_neg y9, if_neg x10, if_neg y10, if_neg x11, if_neg y11, if_neg x12, if_neg y12, if_neg x13, if_neg y13, if_neg x14, if_neg y14, if_neg x15, if_neg y15, if_neg x16, if_neg y16, if_neg x17, if_neg y17, if_neg x18, if_neg y18, if_neg x19, if_neg y19, if_neg x20, if_neg y20, if_neg x21, if_neg y21, if_neg h', if_pos (h.resolve_left h')]
  refine wp_skip ?_
  refine Go.Switch.give1 73 s22 (by decide) (fun a' r d => hfin a' (r.trans ?_) ((((((((((((((((((((((((d.trans d22).trans d21).trans d20).trans d19).trans d18).trans d17).trans d16).trans d15).trans d14).trans d13).trans d12).trans d11).trans d10).trans d9).trans d8).trans d7).trans d6).trans d5).trans d4).trans d3).trans d2).trans d1).trans d0).trans z3))
  unfold classN
  rw [if_neg x0, if_neg y0, if_neg x1, if_neg y1, if_neg x2, if_neg y2, if_neg x3, if_neg y3, if_neg x4, if_neg y4, if_neg x5, if_neg y5, if_neg x6, if_neg y6, if_neg x7, if_neg y7, if_neg x8, if_neg y8, if_neg x9, if_neg y9, if_neg x10, if_neg y10, if_neg x11, if_neg y11, if_neg x12, if_neg y12, if_neg x13, if_neg y13, if_neg x14, if_neg y14, if_neg x15, if_neg y15, if_neg x16, if_neg y16, if_neg x17, if_neg y17, if_neg x18, if_neg y18, if_neg x19, if_neg y19, if_neg x20, if_neg y20, if_neg x21, if_neg y21, if_neg x22, if_neg y22]
set_option maxRecDepth 100000 in
set_option maxHeartbeats 4000000 in
theorem namesOf_any (c : Int) (w : World) :
    Calls Try.prog 48 #[.int .u8 c] w fun e w' => e = .returned (.tuple #[.string (shortS c), .string (longS c)]) ∧ w' = w := by
  refine calls_of_wp Try.func48 rfl ?_
  simp only [Try.ntmps48, List.size_toArray, List.length_cons, List.length_nil, Nat.reduceAdd, Nat.reduceSub]
  have hfin : ∀ a' : Act, a'.tmps.getD 2 undef = .string (shortS c) → a'.tmps.getD 3 undef = .string (longS c) → a'.defers = [] → bodyPost Try.prog Try.f48 (fun e w' => e = .returned (.tuple #[.string (shortS c), .string (longS c)]) ∧ w' = w) .ret a' w := fun a' h1 h2 h3 => bodyPost_ret (results_tmp2 rfl _ _ _) h3 ⟨ret_two h1 h2, rfl⟩
  refine wp_seq (Go.Switch.layC2 ?_)
  refine wp_seq (wp_seq (Go.Switch.layM ?_))
  refine wp_block ?_
  obtain ⟨z1, z2, z3⟩ := Go.Switch.start2 (.int .u8 c) undef (.string ⟨#[]⟩) (.string ⟨#[]⟩) 50 2 3 4 [] _ _ _ _ rfl rfl rfl rfl (by decide) (by decide) (by decide) (by decide) (by decide)
  simp only [Nat.reduceAdd] at z1
  generalize Act.put _ (some 4) _ = a at *
  refine Go.Switch.case1 (t := c) 51 z1 z2 (by decide) (by decide) (by decide) (by decide) (fun h a0 s0 d0 => Go.Switch.give2 51 s0 (by decide) (by decide) (by decide) (fun a' r r' d => hfin a' (r.trans ?_) (r'.trans ?_) ((d.trans d0).trans z3))) (fun x0 a0 s0 g0 d0 => ?_)
  · unfold shortS
    rw [if_pos h]
  · unfold longS
    rw [if_pos h]
  refine Go.Switch.case1 (t := c) 51 s0 g0 (by decide) (by decide) (by decide) (by decide) (fun h a1 s1 d1 => Go.Switch.give2 51 s1 (by decide) (by decide) (by decide) (fun a' r r' d => hfin a' (r.trans ?_) (r'.trans ?_) (((d.trans d1).trans d0).trans z3))) (fun x1 a1 s1 g1 d1 => ?_)
  · unfold shortS
    rw [if_neg x0, if_pos h]
  · unfold longS
    rw [if_neg x0, if_pos h]
  refine Go.Switch.case1 (t := c) 51 s1 g1 (by decide) (by decide) (by decide) (by decide) (fun h a2 s2 d2 => Go.Switch.give2 51 s2 (by decide) (by decide) (by decide) (fun a' r r' d => hfin a' (r.trans ?_) (r'.trans ?_) ((((d.trans d2).trans d1).trans d0).trans z3))) (fun x2 a2 s2 g2 d2 => ?_)
  · unfold shortS
    rw [if_neg x0, if_neg x1, if_pos h]
  · unfold longS
    rw [if_neg x0, if_neg x1, if_pos h]
  refine Go.Switch.case1 (t := c) 51 s2 g2 (by decide) (by decide) (by decide) (by decide) (fun h a3 s3 d3 => Go.Switch.give2 51 s3 (by decide) (by decide) (by decide) (fun a' r r' d => hfin a' (r.trans ?_) (r'.trans ?_) (((((d.trans d3).trans d2).trans d1).trans d0).trans z3))) (fun x3 a3 s3 g3 d3 => ?_)
  · unfold shortS
    rw [if_neg x0, if_neg x1, if_neg x2, if_pos h]
  · unfold longS
    rw [if_neg x0, if_neg x1, if_neg x2, if_pos h]
  refine Go.Switch.case1 (t := c) 51 s3 g3 (by decide) (by decide) (by decide) (by decide) (fun h a4 s4 d4 => Go.Switch.give2 51 s4 (by decide) (by decide) (by decide) (fun a' r r' d => hfin a' (r.trans ?_) (r'.trans ?_) ((((((d.trans d4).trans d3).trans d2).trans d1).trans d0).trans z3))) (fun x4 a4 s4 g4 d4 => ?_)
  · unfold shortS
    rw [if_neg x0, if_neg x1, if_neg x2, if_neg x3, if_pos h]
  · unfold longS
    rw [if_neg x0, if_neg x1, if_neg x2, if_neg x3, if_pos h]
  refine Go.Switch.case1 (t := c) 51 s4 g4 (by decide) (by decide) (by decide) (by decide) (fun h a5 s5 d5 => Go.Switch.give2 51 s5 (by decide) (by decide) (by decide) (fun a' r r' d => hfin a' (r.trans ?_) (r'.trans ?_) (((((((d.trans d5).trans d4).trans d3).trans d2).trans d1).trans d0).trans z3))) (fun x5 a5 s5 g5 d5 => ?_)
  · unfold shortS
    rw [if_neg x0, if_neg x1, if_neg x2, if_neg x3, if_neg x4, if_pos h]
  · unfold longS
    rw [if_neg x0, if_neg x1, if_neg x2, if_neg x3, if_neg x4, if_pos h]
  refine Go.Switch.case1 (t := c) 51 s5 g5 (by decide) (by decide) (by decide) (by decide) (fun h a6 s6 d6 => Go.Switch.give2 51 s6 (by decide) (by decide) (by decide) (fun a' r r' d => hfin a' (r.trans ?_) (r'.trans ?_) ((((((((d.trans d6).trans d5).trans d4).trans d3).trans d2).trans d1).trans d0).trans z3))) (fun x6 a6 s6 g6 d6 => ?_)
  · unfold shortS
    rw [if_neg x0, if_neg x1, if_neg x2, if_neg x3, if_neg x4, if_neg x5, if_pos h]
  · unfold longS
    rw [if_neg x0, if_neg x1, if_neg x2, if_neg x3, if_neg x4, if_neg x5, if_pos h]
  refine Go.Switch.case1 (t := c) 51 s6 g6 (by decide) (by decide) (by decide) (by decide) (fun h a7 s7 d7 => Go.Switch.give2 51 s7 (by decide) (by decide) (by decide) (fun a' r r' d => hfin a' (r.trans ?_) (r'.trans ?_) (((((((((d.trans d7).trans d6).trans d5).trans d4).trans d3).trans d2).trans d1).trans d0).trans z3))) (fun x7 a7 s7 g7 d7 => ?_)
  · unfold shortS
    rw [if_neg x0, if_neg x1, if_neg x2, if_neg x3, if_neg x4, if_neg x5, if_neg x6, if_pos h]
  · unfold longS
    rw [if_neg x0, if_neg x1, if_neg x2, if_neg x3, if_neg x4, if_neg x5, if_neg x6, if_pos h]
  refine Go.Switch.case1 (t := c) 51 s7 g7 (by decide) (by decide) (by decide) (by decide) (fun h a8 s8 d8 => Go.Switch.give2 51 s8 (by decide) (by decide) (by decide) (fun a' r r' d => hfin a' (r.trans ?_) (r'.trans ?_) ((((((((((d.trans d8).trans d7).trans d6).trans d5).trans d4).trans d3).trans d2).trans d1).trans d0).trans z3))) (fun x8 a8 s8 g8 d8 => ?_)
  · unfold shortS
    rw [if_neg x0, if_neg x1, if_neg x2, if_neg x3, if_neg x4, if_neg x5, if_neg x6, if_neg x7, if_pos h]
  · unfold longS
    rw [if_neg x0, if_neg x1, if_neg x2, if_neg x3, if_neg x4, if_neg x5, if_neg x6, if_neg x7, if_pos h]
  refine Go.Switch.case1 (t := c) 51 s8 g8 (by decide) (by decide) (by decide) (by decide) (fun h a9 s9 d9 => Go.Switch.give2 51 s9 (by decide) (by decide) (by decide) (fun a' r r' d => hfin a' (r.trans ?_) (r'.trans ?_) (((((((((((d.trans d9).trans d8).trans d7).trans d6).trans d5).trans d4).trans d3).trans d2).trans d1).trans d0).trans z3))) (fun x9 a9 s9 g9 d9 => ?_)
  · unfold shortS
    rw [if_neg x0, if_neg x1, if_neg x2, if_neg x3, if_neg x4, if_neg x5, if_neg x6, if_neg x7, if_neg x8, if_pos h]
  · unfold longS
    rw [if_neg x0, if_neg x1, if_neg x2, if_neg x3, if_neg x4, if_neg x5, if_neg x6, if_neg x7, if_neg x8, if_pos h]
  refine Go.Switch.case1 (t := c) 51 s9 g9 (by decide) (by decide) (by decide) (by decide) (fun h a10 s10 d10 => Go.Switch.give2 51 s10 (by decide) (by decide) (by decide) (fun a' r r' d => hfin a' (r.trans ?_) (r'.trans ?_) ((((((((((((d.trans d10).trans d9).trans d8).trans d7).trans d6).trans d5).trans d4).trans d3).trans d2).trans d1).trans d0).trans z3))) (fun x10 a10 s10 g10 d10 => ?_)
  · unfold shortS
    rw [if_neg x0, if_neg x1, if_neg x2, if_neg x3, if_neg x4, if_neg x5, if_neg x6, if_neg x7, if_neg x8, if_neg x9, if_pos h]
  · unfold longS
    rw [if_neg x0, if_neg x1, if_neg x2, if_neg x3, if_neg x4, if_neg x5, if_neg x6, if_neg x7, if_neg x8, if_neg x9, if_pos h]
  refine Go.Switch.case1 (t := c) 51 s10 g10 (by decide) (by decide) (by decide) (by decide) (fun h a11 s11 d11 => Go.Switch.give2 51 s11 (by decide) (by decide) (by decide) (fun a' r r' d => hfin a' (r.trans ?_) (r'.trans ?_) (((((((((((((d.trans d11).trans d10).trans d9).trans d8).trans d7).trans d6).trans d5).trans d4).trans d3).trans d2).trans d1).trans d0).trans z3))) (fun x11 a11 s11 g11 d11 => ?_)
  · unfold shortS
    rw [if_neg x0, if_neg x1, if_neg x2, if_neg x3, if_neg x4, if_neg x5, if_neg x6, if_neg x7, if_neg x8, if_neg x9, if_neg x10, if_pos h]
  · unfold longS
    rw [if_neg x0, if_neg x1, if_neg x2, if_neg x3, if_neg x4, if_neg x5, if_neg x6, if_neg x7, if_neg x8, if_neg x9, if_neg x10, if_pos h]
  refine Go.Switch.case1 (t := c) 51 s11 g11 (by decide) (by decide) (by decide) (by decide) (fun h a12 s12 d12 => Go.Switch.give2 51 s12 (by decide) (by decide) (by decide) (fun a' r r' d => hfin a' (r.trans ?_) (r'.trans ?_) ((((((((((((((d.trans d12).trans d11).trans d10).trans d9).trans d8).trans d7).trans d6).trans d5).trans d4).trans d3).trans d2).trans d1).trans d0).trans z3))) (fun x12 a12 s12 g12 d12 => ?_)
  · unfold shortS
    rw [if_neg x0, if_neg x1, if_neg x2, if_neg x3, if_neg x4, if_neg x5, if_neg x6, if_neg x7, if_neg x8, if_neg x9, if_neg x10, if_neg x11, if_pos h]
  · unfold longS
    rw [if_neg x0, if_neg x1, if_neg x2, if_neg x3, if_neg x4, if_neg x5, if_neg x6, if_neg x7, if_neg x8, if_neg x9, if_neg x10, if_neg x11, if_pos h]
  refine Go.Switch.case1 (t := c) 51 s12 g12 (by decide) (by decide) (by decide) (by decide) (fun h a13 s13 d13 => Go.Switch.give2 51 s13 (by decide) (by decide) (by decide) (fun a' r r' d => hfin a' (r.trans ?_) (r'.trans ?_) (((((((((((((((d.trans d13).trans d12).trans d11).trans d10).trans d9).trans d8).trans d7).trans d6).trans d5).trans d4).trans d3).trans d2).trans d1).trans d0).trans z3))) (fun x13 a13 s13 g13 d13 => ?_)
  · unfold shortS
    rw [if_neg x0, if_neg x1, if_neg x2, if_neg x3, if_neg x4, if_neg x5, if_neg x6, if_neg x7, if_neg x8, if_neg x9, if_neg x10, if_neg x11, if_neg x12, if_pos h]
  · unfold longS
    rw [if_neg x0, if_neg x1, if_neg x2, if_neg x3, if_neg x4, if_neg x5, if_neg x6, if_neg x7, if_neg x8, if_neg x9, if_neg x10, if_neg x11, if_neg x12, if_pos h]
  refine Go.Switch.case1 (t := c) 51 s13 g13 (by decide) (by decide) (by decide) (by decide) (fun h a14 s14 d14 => Go.Switch.give2 51 s14 (by decide) (by decide) (by decide) (fun a' r r' d => hfin a' (r.trans ?_) (r'.trans ?_) ((((((((((((((((d.trans d14).trans d13).trans d12).trans d11).trans d10).trans d9).trans d8).trans d7).trans d6).trans d5).trans d4).trans d3).trans d2).trans d1).trans d0).trans z3))) (fun x14 a14 s14 g14 d14 => ?_)
  · unfold shortS
    rw [if_neg x0, if_neg x1, if_neg x2, if_neg x3, if_neg x4, if_neg x5, if_neg x6, if_neg x7, if_neg x8, if_neg x9, if_neg x10, if_neg x11, if_neg x12, if_neg x13, if_pos h]
  · unfold longS
    rw [if_neg x0, if_neg x1, if_neg x2, if_neg x3, if_neg x4, if_neg x5, if_neg x6, if_neg x7, if_neg x8, if_neg x9, if_neg x10, if_neg x11, if_neg x12, if_neg x13, if_pos h]
  refine Go.Switch.case1 (t := c) 51 s14 g14 (by decide) (by decide) (by decide) (by decide) (fun h a15 s15 d15 => Go.Switch.give2 51 s15 (by decide) (by decide) (by decide) (fun a' r r' d => hfin a' (r.trans ?_) (r'.trans ?_) (((((((((((((((((d.trans d15).trans d14).trans d13).trans d12).trans d11).trans d10).trans d9).trans d8).trans d7).trans d6).trans d5).trans d4).trans d3).trans d2).trans d1).trans d0).trans z3))) (fun x15 a15 s15 g15 d15 => ?_)
  · unfold shortS
    rw [if_neg x0, if_neg x1, if_neg x2, if_neg x3, if_neg x4, if_neg x5, if_neg x6, if_neg x7, if_neg x8, if_neg x9, if_neg x10, if_neg x11, if_neg x12, if_neg x13, if_neg x14, if_pos h]
  · unfold longS
    rw [if_neg x0, if_neg x1, if_neg x2, if_neg x3, if_neg x4, if_neg x5, if_neg x6, if_neg x7, if_neg x8, if_neg x9, if_neg x10, if_neg x11, if_neg x12, if_neg x13, if_neg x14, if_pos h]
  refine Go.Switch.case1 (t := c) 51 s15 g15 (by decide) (by decide) (by decide) (by decide) (fun h a16 s16 d16 => Go.Switch.give2 51 s16 (by decide) (by decide) (by decide) (fun a' r r' d => hfin a' (r.trans ?_) (r'.trans ?_) ((((((((((((((((((d.trans d16).trans d15).trans d14).trans d13).trans d12).trans d11).trans d10).trans d9).trans d8).trans d7).trans d6).trans d5).trans d4).trans d3).trans d2).trans d1).trans d0).trans z3))) (fun x16 a16 s16 g16 d16 => ?_)
  · unfold shortS
    rw [if_neg x0, if_neg x1, if_neg x2, if_neg x3, if_neg x4, if_neg x5, if_neg x6, if_neg x7, if_neg x8, if_neg x9, if_neg x10, if_neg x11, if_neg x12, if_neg x13, if_neg x14, if_neg x15, if_pos h]
  · unfold longS
    rw [if_neg x0, if_neg x1, if_neg x2, if_neg x3, if_neg x4, if_neg x5, if_neg x6, if_neg x7, if_neg x8, if_neg x9, if_neg x10, if_neg x11, if_neg x12, if_neg x13, if_neg x14, if_neg x15, if_pos h]
  refine Go.Switch.case1 (t := c) 51 s16 g16 (by decide) (by decide) (by decide) (by decide) (fun h a17 s17 d17 => Go.Switch.give2 51 s17 (by decide) (by decide) (by decide) (fun a' r r' d => hfin a' (r.trans ?_) (r'.trans ?_) (((((((((((((((((((d.trans d17).trans d16).trans d15).trans d14).trans d13).trans d12).trans d11).trans d10).trans d9).trans d8).trans d7).trans d6).trans d5).trans d4).trans d3).trans d2).trans d1).trans d0).trans z3))) (fun x17 a17 s17 g17 d17 => ?_)
  · unfold shortS
    rw [if_neg x0, if_neg x1, if_neg x2, if_neg x3, if_neg x4, if_neg x5, if_neg x6, if_neg x7, if_neg x8, if_neg x9, if_neg x10, if_neg x11, if_neg x12, if_neg x13, if_neg x14, if_neg x15, if_neg x16, if_pos h]
  · unfold longS
    rw [if_neg x0, if_neg x1, if_neg x2, if_neg x3, if_neg x4, if_neg x5, if_neg x6, if_neg x7, if_neg x8, if_neg x9, if_neg x10, if_neg x11, if_neg x12, if_neg x13, if_neg x14, if_neg x15, if_neg x16, if_pos h]
  refine Go.Switch.case1 (t := c) 51 s17 g17 (by decide) (by decide) (by decide) (by decide) (fun h a18 s18 d18 => Go.Switch.give2 51 s18 (by decide) (by decide) (by decide) (fun a' r r' d => hfin a' (r.trans ?_) (r'.trans ?_) ((((((((((((((((((((d.trans d18).trans d17).trans d16).trans d15).trans d14).trans d13).trans d12).trans d11).trans d10).trans d9).trans d8).trans d7).trans d6).trans d5).trans d4).trans d3).trans d2).trans d1).trans d0).trans z3))) (fun x18 a18 s18 g18 d18 => ?_)
  · unfold shortS
    rw [if_neg x0, if_neg x1, if_neg x2, if_neg x3, if_neg x4, if_neg x5, if_neg x6, if_neg x7, if_neg x8, if_neg x9, if_neg x10, if_neg x11, if_neg x12, if_neg x13, if_neg x14, if_neg x15, if_neg x16, if_neg x17, if_pos h]
  · unfold longS
    rw [if_neg x0, if_neg x1, if_neg x2, if_neg x3, if_neg x4, if_neg x5, if_neg x6, if_neg x7, if_neg x8, if_neg x9, if_neg x10, if_neg x11, if_neg x12, if_neg x13, if_neg x14, if_neg x15, if_neg x16, if_neg x17, if_pos h]
  refine Go.Switch.case1 (t := c) 51 s18 g18 (by decide) (by decide) (by decide) (by decide) (fun h a19 s19 d19 => Go.Switch.give2 51 s19 (by decide) (by decide) (by decide) (fun a' r r' d => hfin a' (r.trans ?_) (r'.trans ?_) (((((((((((((((((((((d.trans d19).trans d18).trans d17).trans d16).trans d15).trans d14).trans d13).trans d12).trans d11).trans d10).trans d9).trans d8).trans d7).trans d6).trans d5).trans d4).trans d3).trans d2).trans d1).trans d0).trans z3))) (fun x19 a19 s19 g19 d19 => ?_)
  · unfold shortS
    rw [if_neg x0, if_neg x1, if_neg x2, if_neg x3, if_neg x4, if_neg x5, if_neg x6, if_neg x7, if_neg x8, if_neg x9, if_neg x10, if_neg x11, if_neg x12, if_neg x13, if_neg x14, if_neg x15, if_neg x16, if_neg x17, if_neg x18, if_pos h]
  · unfold longS
    rw [if_neg x0, if_neg x1, if_neg x2, if_neg x3, if_neg x4, if_neg x5, if_neg x6, if_neg x7, if_neg x8, if_neg x9, if_neg x10, if_neg x11, if_neg x12, if_neg x13, if_neg x14, if_neg x15, if_neg x16, if_neg x17, if_neg x18, if_pos h]
  refine Go.Switch.case1 (t := c) 51 s19 g19 (by decide) (by decide) (by decide) (by decide) (fun h a20 s20 d20 => Go.Switch.give2 51 s20 (by decide) (by decide) (by decide) (fun a' r r' d => hfin a' (r.trans ?_) (r'.trans ?_) ((((((((((((((((((((((d.trans d20).trans d19).trans d18).trans d17).trans d16).trans d15).trans d14).trans d13).trans d12).trans d11).trans d10).trans d9).trans d8).trans d7).trans d6).trans d5).trans d4).trans d3).trans d2).trans d1).trans d0).trans z3))) (fun x20 a20 s20 g20 d20 => ?_)
  · unfold shortS
    rw [if_neg x0, if_neg x1, if_neg x2, if_neg x3, if_neg x4, if_neg x5, if_neg x6, if_neg x7, if_neg x8, if_neg x9, if_neg x10, if_neg x11, if_neg x12, if_neg x13, if_neg x14, if_neg x15, if_neg x16, if_neg x17, if_neg x18, if_neg x19, if_pos h]
  · unfold longS
    rw [if_neg x0, if_neg x1, if_neg x2, if_neg x3, if_neg x4, if_neg x5, if_neg x6, if_neg x7, if_neg x8, if_neg x9, if_neg x10, if_neg x11, if_neg x12, if_neg x13, if_neg x14, if_neg x15, if_neg x16, if_neg x17, if_neg x18, if_neg x19, if_pos h]
  refine Go.Switch.case1 (t := c) 51 s20 g20 (by decide) (by decide) (by decide) (by decide) (fun h a21 s21 d21 => Go.Switch.give2 51 s21 (by decide) (by decide) (by decide) (fun a' r r' d => hfin a' (r.trans ?_) (r'.trans ?_) (((((((((((((((((((((((d.trans d21).trans d20).trans d19).trans d18).trans d17).trans d16).trans d15).trans d14).trans d13).trans d12).trans d11).trans d10).trans d9).trans d8).trans d7).trans d6).trans d5).trans d4).trans d3).trans d2).trans d1).trans d0).trans z3))) (fun x21 a21 s21 g21 d21 => ?_)
  · unfold shortS
    rw [if_neg x0, if_neg x1, if_neg x2, if_neg x3, if_neg x4, if_neg x5, if_neg x6, if_neg x7, if_neg x8, if_neg x9, if_neg x10, if_neg x11, if_neg x12, if_neg x13, if_neg x14, if_neg x15, if_neg x16, if_neg x17, if_neg x18, if_neg x19, if_neg x20, if_pos h]
  · unfold longS
    rw [if_neg x0, if_neg x1, if_neg x2, if_neg x3, if_neg x4, if_neg x5, if_neg x6, if_neg x7, if_neg x8, if_neg x9, if_neg x10, if_neg x11, if_neg x12, if_neg x13, if_neg x14, if_neg x15, if_neg x16, if_neg x17, if_neg x18, if_neg x19, if_neg x20, if_pos h]
  refine Go.Switch.case1 (t := c) 51 s21 g21 (by decide) (by decide) (by decide) (by decide) (fun h a22 s22 d22 => Go.Switch.give2 51 s22 (by decide) (by decide) (by decide) (fun a' r r' d => hfin a' (r.trans ?_) (r'.trans ?_) ((((((((((((((((((((((((d.trans d22).trans d21).trans d20).trans d19).trans d18).trans d17).trans d16).trans d15).trans d14).trans d13).trans d12).trans d11).trans d10).trans d9).trans d8).trans d7).trans d6).trans d5).trans d4).trans d3).trans d2).trans d1).trans d0).trans z3))) (fun x22 a22 s22 g22 d22 => ?_)
  · unfold shortS
    rw [if_neg x0, if_neg x1, if_neg x2, if_neg x3, if_neg x4, if_neg x5, if_neg x6, if_neg x7, if_neg x8, if_neg x9, if_neg x10, if_neg x11, if_neg x12, if_neg x13, if_neg x14, if_neg x15, if_neg x16, if_neg x17, if_neg x18, if_neg x19, if_neg x20, if_neg x21, if_pos h]
  · unfold longS
    rw [if_neg x0, if_neg x1, if_neg x2, if_neg x3, if_neg x4, if_neg x5, if_neg x6, if_neg x7, if_neg x8, if_neg x9, if_neg x10, if_neg x11, if_neg x12, if_neg x13, if_neg x14, if_neg x15, if_neg x16, if_neg x17, if_neg x18, if_neg x19, if_neg x20, if_neg x21, if_pos h]
  refine wp_skip ?_
  refine Go.Switch.give2 51 s22 (by decide) (by decide) (by decide) (fun a' r r' d => hfin a' (r.trans ?_) (r'.trans ?_) ((((((((((((((((((((((((d.trans d22).trans d21).trans d20).trans d19).trans d18).trans d17).trans d16).trans d15).trans d14).trans d13).trans d12).trans d11).trans d10).trans d9).trans d8).trans d7).trans d6).trans d5).trans d4).trans d3).trans d2).trans d1).trans d0).trans z3))
  · unfold shortS
    rw [if_neg x0, if_neg x1, if_neg x2, if_neg x3, if_neg x4, if_neg x5, if_neg x6, if_neg x7, if_neg x8, if_neg x9, if_neg x10, if_neg x11, if_neg x12, if_neg x13, if_neg x14, if_neg x15, if_neg x16, if_neg x17, if_neg x18, if_neg x19, if_neg x20, if_neg x21, if_neg x22]
  · unfold longS
    rw [if_neg x0, if_neg x1, if_neg x2, if_neg x3, if_neg x4, if_neg x5, if_neg x6, if_neg x7, if_neg x8, if_neg x9, if_neg x10, if_neg x11, if_neg x12, if_neg x13, if_neg x14, if_neg x15, if_neg x16, if_neg x17, if_neg x18, if_neg x19, if_neg x20, if_neg x21, if_neg x22]
end Go.Proofs.Ytkpmcojoiijonaa

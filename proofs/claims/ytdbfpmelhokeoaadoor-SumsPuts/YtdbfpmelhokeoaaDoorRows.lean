/-
  NARROWER THAN 'FOR EVERY INPUT', by the rows' own cells (each row's printed sentence says how): SumsCRC: laid · SumsJoined: laid · SumsPuts: laid · SumsSizes: laid · SumsTakes: laid · SumsOpens: laid · SumsBursts: laid · SumsPieces: laid · SumsBurst: laid · SumsOne: laid · SumsBack: laid · SumsAdded: laid · SumsNames: laid.
  DERIVED. THE GIVEN ROWS OF THIS SEAT. 13 by the template 'for every input the law returns true; each argument reads behind the call as it read before'; 0 by the template 'total and deterministic' (their statements: YtdbfpmelhokeoaaDoorTotals.lean).
  GIVEN WITH THE SEED: the statements are not yours to turn. If you find one false, say at which input.
  Laid BY PROGRAM, IN A SANDBOX (cutbox-rows.mjs): the forced cells as the released guide's own fill.sh prints them over the translation 482b737ee7c71087… (all of the seat's roots in one cut). By AI agents, Wed Nov 11 2026. No macro, syntax, notation, axiom, sorry.
-/
import Derived.Test.YtdbfpmelhokeoaaDoorChecked
import GoSem.Claim
import GoSem.ClaimJoined
import GoSem.ClaimMapViews
import Derived.JoinedTies
import Derived.KernelRfl
namespace Go.Proofs.YtdbfpmelhokeoaaDoor
/- THE CELL 'sum', in the pinned program and in every row, IS THE sha256 OF THE DUMP (.gsa) THAT YtdbfpmelhokeoaaDoorProg.lean LOADS. Nothing in Lean hashes anything: it is a label: what it is worth is what the hold of that sum in a sandbox is worth. -/
noncomputable def Tryd.pinned : Pinned := { name := "ytdbfpmelhokeoaadoor", sum := "482b737ee7c71087a637cb1682874d2944e3c0d1929825297725636c31ce813d", checked := Tryd.checked }
namespace Rows
def none {H : Type} : Left H := { results := [], args := [] }

/- WHAT THE LISTED PACKAGE-LEVEL VARIABLES READ AS WHEN THE CALL BEGINS. Each datum BY PROGRAM (the guide's laid-datum.mjs) off the statement by which the dump's own 'gosem.cut.vars' lays the variable. In a bare row this is a premise. The card (YtdbfpmelhokeoaaDoorCards.lean) ties it to the program's text. -/
def laid_furrow_sums_fours {H : Type} : DataW H := .agg [.lit (.int .u32 0), .lit (.int .u32 498536548), .lit (.int .u32 997073096), .lit (.int .u32 651767980), .lit (.int .u32 1994146192), .lit (.int .u32 1802195444), .lit (.int .u32 1303535960), .lit (.int .u32 1342533948), .lit (.int .u32 3988292384), .lit (.int .u32 4027552580), .lit (.int .u32 3604390888), .lit (.int .u32 3412177804), .lit (.int .u32 2607071920), .lit (.int .u32 2262029012), .lit (.int .u32 2685067896), .lit (.int .u32 3183342108)]

/-- 'furrowlaw12.SumsCRC': WHATEVER THE INPUT: true; the input reads as it did. -/
def sumsCRCSpec : ChangeSpec := { name := "sumsCRC", fn := fun _ => fun
  | [d1, d2, d3] => { results := [.lit (.bool true)], args := [d1, d2, d3] }
  | _ => none }
def sumsCRCRow : OpenClaim := { program := "ytdbfpmelhokeoaadoor", sum := "482b737ee7c71087a637cb1682874d2944e3c0d1929825297725636c31ce813d", func := "furrow/furrowlaw12.SumsCRC", spec := "sumsCRC", named := ["furrow/sums.fours"], apart := false, laid := [("furrow/sums.fours", laid_furrow_sums_fours)] }
def SumsCRCSaid : Prop := sumsCRCRow.holds Tryd.pinned (OpenSpec.ofChange sumsCRCSpec)

/-- ITS FALSE NEIGHBOUR: 'it returns false'. Refute it at one input. -/
def sumsCRCWrong : ChangeSpec := { name := "sumsCRC", fn := fun _ => fun
  | [d1, d2, d3] => { results := [.lit (.bool false)], args := [d1, d2, d3] }
  | _ => none }
def SumsCRCWrongFalsely : Prop := sumsCRCRow.holds Tryd.pinned (OpenSpec.ofChange sumsCRCWrong)

/-- 'furrowlaw12.SumsJoined': WHATEVER THE INPUT: true; the input reads as it did. -/
def sumsJoinedSpec : ChangeSpec := { name := "sumsJoined", fn := fun _ => fun
  | [d1, d2, d3] => { results := [.lit (.bool true)], args := [d1, d2, d3] }
  | _ => none }
def sumsJoinedRow : OpenClaim := { program := "ytdbfpmelhokeoaadoor", sum := "482b737ee7c71087a637cb1682874d2944e3c0d1929825297725636c31ce813d", func := "furrow/furrowlaw12.SumsJoined", spec := "sumsJoined", named := ["furrow/sums.fours"], apart := false, laid := [("furrow/sums.fours", laid_furrow_sums_fours)] }
def SumsJoinedSaid : Prop := sumsJoinedRow.holds Tryd.pinned (OpenSpec.ofChange sumsJoinedSpec)

/-- ITS FALSE NEIGHBOUR: 'it returns false'. Refute it at one input. -/
def sumsJoinedWrong : ChangeSpec := { name := "sumsJoined", fn := fun _ => fun
  | [d1, d2, d3] => { results := [.lit (.bool false)], args := [d1, d2, d3] }
  | _ => none }
def SumsJoinedWrongFalsely : Prop := sumsJoinedRow.holds Tryd.pinned (OpenSpec.ofChange sumsJoinedWrong)

/-- 'furrowlaw12.SumsPuts': WHATEVER THE INPUT: true; the input reads as it did. -/
def sumsPutsSpec : ChangeSpec := { name := "sumsPuts", fn := fun _ => fun
  | [d1, d2] => { results := [.lit (.bool true)], args := [d1, d2] }
  | _ => none }
def sumsPutsRow : OpenClaim := { program := "ytdbfpmelhokeoaadoor", sum := "482b737ee7c71087a637cb1682874d2944e3c0d1929825297725636c31ce813d", func := "furrow/furrowlaw12.SumsPuts", spec := "sumsPuts", named := ["furrow/sums.fours"], apart := false, laid := [("furrow/sums.fours", laid_furrow_sums_fours)] }
def SumsPutsSaid : Prop := sumsPutsRow.holds Tryd.pinned (OpenSpec.ofChange sumsPutsSpec)

/-- ITS FALSE NEIGHBOUR: 'it returns false'. Refute it at one input. -/
def sumsPutsWrong : ChangeSpec := { name := "sumsPuts", fn := fun _ => fun
  | [d1, d2] => { results := [.lit (.bool false)], args := [d1, d2] }
  | _ => none }
def SumsPutsWrongFalsely : Prop := sumsPutsRow.holds Tryd.pinned (OpenSpec.ofChange sumsPutsWrong)

/-- 'furrowlaw12.SumsSizes': WHATEVER THE INPUT: true; the input reads as it did. -/
def sumsSizesSpec : ChangeSpec := { name := "sumsSizes", fn := fun _ => fun
  | [d] => { results := [.lit (.bool true)], args := [d] }
  | _ => none }
def sumsSizesRow : OpenClaim := { program := "ytdbfpmelhokeoaadoor", sum := "482b737ee7c71087a637cb1682874d2944e3c0d1929825297725636c31ce813d", func := "furrow/furrowlaw12.SumsSizes", spec := "sumsSizes", named := ["furrow/sums.fours"], apart := false, laid := [("furrow/sums.fours", laid_furrow_sums_fours)] }
def SumsSizesSaid : Prop := sumsSizesRow.holds Tryd.pinned (OpenSpec.ofChange sumsSizesSpec)

/-- ITS FALSE NEIGHBOUR: 'it returns false'. Refute it at one input. -/
def sumsSizesWrong : ChangeSpec := { name := "sumsSizes", fn := fun _ => fun
  | [d] => { results := [.lit (.bool false)], args := [d] }
  | _ => none }
def SumsSizesWrongFalsely : Prop := sumsSizesRow.holds Tryd.pinned (OpenSpec.ofChange sumsSizesWrong)

/-- 'furrowlaw12.SumsTakes': WHATEVER THE INPUT: true; the input reads as it did. -/
def sumsTakesSpec : ChangeSpec := { name := "sumsTakes", fn := fun _ => fun
  | [d1, d2, d3] => { results := [.lit (.bool true)], args := [d1, d2, d3] }
  | _ => none }
def sumsTakesRow : OpenClaim := { program := "ytdbfpmelhokeoaadoor", sum := "482b737ee7c71087a637cb1682874d2944e3c0d1929825297725636c31ce813d", func := "furrow/furrowlaw12.SumsTakes", spec := "sumsTakes", named := ["furrow/sums.fours"], apart := false, laid := [("furrow/sums.fours", laid_furrow_sums_fours)] }
def SumsTakesSaid : Prop := sumsTakesRow.holds Tryd.pinned (OpenSpec.ofChange sumsTakesSpec)

/-- ITS FALSE NEIGHBOUR: 'it returns false'. Refute it at one input. -/
def sumsTakesWrong : ChangeSpec := { name := "sumsTakes", fn := fun _ => fun
  | [d1, d2, d3] => { results := [.lit (.bool false)], args := [d1, d2, d3] }
  | _ => none }
def SumsTakesWrongFalsely : Prop := sumsTakesRow.holds Tryd.pinned (OpenSpec.ofChange sumsTakesWrong)

/-- 'furrowlaw12.SumsOpens': WHATEVER THE INPUT: true; the input reads as it did. -/
def sumsOpensSpec : ChangeSpec := { name := "sumsOpens", fn := fun _ => fun
  | [d] => { results := [.lit (.bool true)], args := [d] }
  | _ => none }
def sumsOpensRow : OpenClaim := { program := "ytdbfpmelhokeoaadoor", sum := "482b737ee7c71087a637cb1682874d2944e3c0d1929825297725636c31ce813d", func := "furrow/furrowlaw12.SumsOpens", spec := "sumsOpens", named := ["furrow/sums.fours"], apart := false, laid := [("furrow/sums.fours", laid_furrow_sums_fours)] }
def SumsOpensSaid : Prop := sumsOpensRow.holds Tryd.pinned (OpenSpec.ofChange sumsOpensSpec)

/-- ITS FALSE NEIGHBOUR: 'it returns false'. Refute it at one input. -/
def sumsOpensWrong : ChangeSpec := { name := "sumsOpens", fn := fun _ => fun
  | [d] => { results := [.lit (.bool false)], args := [d] }
  | _ => none }
def SumsOpensWrongFalsely : Prop := sumsOpensRow.holds Tryd.pinned (OpenSpec.ofChange sumsOpensWrong)

/-- 'furrowlaw12.SumsBursts': WHATEVER THE INPUT: true; the input reads as it did. -/
def sumsBurstsSpec : ChangeSpec := { name := "sumsBursts", fn := fun _ => fun
  | [d1, d2] => { results := [.lit (.bool true)], args := [d1, d2] }
  | _ => none }
def sumsBurstsRow : OpenClaim := { program := "ytdbfpmelhokeoaadoor", sum := "482b737ee7c71087a637cb1682874d2944e3c0d1929825297725636c31ce813d", func := "furrow/furrowlaw12.SumsBursts", spec := "sumsBursts", named := ["furrow/sums.fours"], apart := false, laid := [("furrow/sums.fours", laid_furrow_sums_fours)] }
def SumsBurstsSaid : Prop := sumsBurstsRow.holds Tryd.pinned (OpenSpec.ofChange sumsBurstsSpec)

/-- ITS FALSE NEIGHBOUR: 'it returns false'. Refute it at one input. -/
def sumsBurstsWrong : ChangeSpec := { name := "sumsBursts", fn := fun _ => fun
  | [d1, d2] => { results := [.lit (.bool false)], args := [d1, d2] }
  | _ => none }
def SumsBurstsWrongFalsely : Prop := sumsBurstsRow.holds Tryd.pinned (OpenSpec.ofChange sumsBurstsWrong)

/-- 'furrowlaw12.SumsPieces': WHATEVER THE INPUT: true; the input reads as it did. -/
def sumsPiecesSpec : ChangeSpec := { name := "sumsPieces", fn := fun _ => fun
  | [d1, d2, d3] => { results := [.lit (.bool true)], args := [d1, d2, d3] }
  | _ => none }
def sumsPiecesRow : OpenClaim := { program := "ytdbfpmelhokeoaadoor", sum := "482b737ee7c71087a637cb1682874d2944e3c0d1929825297725636c31ce813d", func := "furrow/furrowlaw12.SumsPieces", spec := "sumsPieces", named := ["furrow/sums.fours"], apart := false, laid := [("furrow/sums.fours", laid_furrow_sums_fours)] }
def SumsPiecesSaid : Prop := sumsPiecesRow.holds Tryd.pinned (OpenSpec.ofChange sumsPiecesSpec)

/-- ITS FALSE NEIGHBOUR: 'it returns false'. Refute it at one input. -/
def sumsPiecesWrong : ChangeSpec := { name := "sumsPieces", fn := fun _ => fun
  | [d1, d2, d3] => { results := [.lit (.bool false)], args := [d1, d2, d3] }
  | _ => none }
def SumsPiecesWrongFalsely : Prop := sumsPiecesRow.holds Tryd.pinned (OpenSpec.ofChange sumsPiecesWrong)

/-- 'furrowlaw12.SumsBurst': WHATEVER THE INPUT: true; the input reads as it did. -/
def sumsBurstSpec : ChangeSpec := { name := "sumsBurst", fn := fun _ => fun
  | [d1, d2, d3] => { results := [.lit (.bool true)], args := [d1, d2, d3] }
  | _ => none }
def sumsBurstRow : OpenClaim := { program := "ytdbfpmelhokeoaadoor", sum := "482b737ee7c71087a637cb1682874d2944e3c0d1929825297725636c31ce813d", func := "furrow/furrowlaw12.SumsBurst", spec := "sumsBurst", named := ["furrow/sums.fours"], apart := false, laid := [("furrow/sums.fours", laid_furrow_sums_fours)] }
def SumsBurstSaid : Prop := sumsBurstRow.holds Tryd.pinned (OpenSpec.ofChange sumsBurstSpec)

/-- ITS FALSE NEIGHBOUR: 'it returns false'. Refute it at one input. -/
def sumsBurstWrong : ChangeSpec := { name := "sumsBurst", fn := fun _ => fun
  | [d1, d2, d3] => { results := [.lit (.bool false)], args := [d1, d2, d3] }
  | _ => none }
def SumsBurstWrongFalsely : Prop := sumsBurstRow.holds Tryd.pinned (OpenSpec.ofChange sumsBurstWrong)

/-- 'furrowlaw12.SumsOne': WHATEVER THE INPUT: true; the input reads as it did. -/
def sumsOneSpec : ChangeSpec := { name := "sumsOne", fn := fun _ => fun
  | [d1, d2] => { results := [.lit (.bool true)], args := [d1, d2] }
  | _ => none }
def sumsOneRow : OpenClaim := { program := "ytdbfpmelhokeoaadoor", sum := "482b737ee7c71087a637cb1682874d2944e3c0d1929825297725636c31ce813d", func := "furrow/furrowlaw12.SumsOne", spec := "sumsOne", named := ["furrow/sums.fours"], apart := false, laid := [("furrow/sums.fours", laid_furrow_sums_fours)] }
def SumsOneSaid : Prop := sumsOneRow.holds Tryd.pinned (OpenSpec.ofChange sumsOneSpec)

/-- ITS FALSE NEIGHBOUR: 'it returns false'. Refute it at one input. -/
def sumsOneWrong : ChangeSpec := { name := "sumsOne", fn := fun _ => fun
  | [d1, d2] => { results := [.lit (.bool false)], args := [d1, d2] }
  | _ => none }
def SumsOneWrongFalsely : Prop := sumsOneRow.holds Tryd.pinned (OpenSpec.ofChange sumsOneWrong)

/-- 'furrowlaw12.SumsBack': WHATEVER THE INPUT: true; the input reads as it did. -/
def sumsBackSpec : ChangeSpec := { name := "sumsBack", fn := fun _ => fun
  | [d1, d2, d3] => { results := [.lit (.bool true)], args := [d1, d2, d3] }
  | _ => none }
def sumsBackRow : OpenClaim := { program := "ytdbfpmelhokeoaadoor", sum := "482b737ee7c71087a637cb1682874d2944e3c0d1929825297725636c31ce813d", func := "furrow/furrowlaw12.SumsBack", spec := "sumsBack", named := ["furrow/sums.fours"], apart := false, laid := [("furrow/sums.fours", laid_furrow_sums_fours)] }
def SumsBackSaid : Prop := sumsBackRow.holds Tryd.pinned (OpenSpec.ofChange sumsBackSpec)

/-- ITS FALSE NEIGHBOUR: 'it returns false'. Refute it at one input. -/
def sumsBackWrong : ChangeSpec := { name := "sumsBack", fn := fun _ => fun
  | [d1, d2, d3] => { results := [.lit (.bool false)], args := [d1, d2, d3] }
  | _ => none }
def SumsBackWrongFalsely : Prop := sumsBackRow.holds Tryd.pinned (OpenSpec.ofChange sumsBackWrong)

/-- 'furrowlaw12.SumsAdded': WHATEVER THE INPUT: true; the input reads as it did. -/
def sumsAddedSpec : ChangeSpec := { name := "sumsAdded", fn := fun _ => fun
  | [d1, d2, d3] => { results := [.lit (.bool true)], args := [d1, d2, d3] }
  | _ => none }
def sumsAddedRow : OpenClaim := { program := "ytdbfpmelhokeoaadoor", sum := "482b737ee7c71087a637cb1682874d2944e3c0d1929825297725636c31ce813d", func := "furrow/furrowlaw12.SumsAdded", spec := "sumsAdded", named := ["furrow/sums.fours"], apart := false, laid := [("furrow/sums.fours", laid_furrow_sums_fours)] }
def SumsAddedSaid : Prop := sumsAddedRow.holds Tryd.pinned (OpenSpec.ofChange sumsAddedSpec)

/-- ITS FALSE NEIGHBOUR: 'it returns false'. Refute it at one input. -/
def sumsAddedWrong : ChangeSpec := { name := "sumsAdded", fn := fun _ => fun
  | [d1, d2, d3] => { results := [.lit (.bool false)], args := [d1, d2, d3] }
  | _ => none }
def SumsAddedWrongFalsely : Prop := sumsAddedRow.holds Tryd.pinned (OpenSpec.ofChange sumsAddedWrong)

/-- 'furrowlaw12.SumsNames': WHATEVER THE INPUT: true; the input reads as it did. -/
def sumsNamesSpec : ChangeSpec := { name := "sumsNames", fn := fun _ => fun
  | [] => { results := [.lit (.bool true)], args := [] }
  | _ => none }
def sumsNamesRow : OpenClaim := { program := "ytdbfpmelhokeoaadoor", sum := "482b737ee7c71087a637cb1682874d2944e3c0d1929825297725636c31ce813d", func := "furrow/furrowlaw12.SumsNames", spec := "sumsNames", named := ["furrow/sums.fours"], apart := false, laid := [("furrow/sums.fours", laid_furrow_sums_fours)] }
def SumsNamesSaid : Prop := sumsNamesRow.holds Tryd.pinned (OpenSpec.ofChange sumsNamesSpec)

/-- ITS FALSE NEIGHBOUR: 'it returns false'. Refute it at one input. -/
def sumsNamesWrong : ChangeSpec := { name := "sumsNames", fn := fun _ => fun
  | [] => { results := [.lit (.bool false)], args := [] }
  | _ => none }
def SumsNamesWrongFalsely : Prop := sumsNamesRow.holds Tryd.pinned (OpenSpec.ofChange sumsNamesWrong)

/- THE SECOND FORM. 'bulk': how many values and letters a reading holds, each counted each time it is reached (what is shared counts as often as it is met; a slice's spare places count too). A statement '..UptoSaid' is the law's where the arguments, and the package variables that the reading takes, are together of bulk at most 1048576: NARROWER than '..Said'. Prove '..Said' where nothing that the law and all that it calls make is longer than what came in: it says more and counts as full. Else prove '..UptoSaid'. A law counts once. -/
mutual
def uptoBulk {H : Type} : DataW H → Nat
  | .lit (.string bytes) => bytes.length + 1
  | .lit _ => 1
  | .nil => 1
  | .ptr d => uptoBulk d + 1
  | .slice elems spare => uptoBulkAll elems + uptoBulkAll spare + 1
  | .agg parts => uptoBulkAll parts + 1
  | .iface _ d => uptoBulk d + 1
  | .map entries => uptoBulkEntries entries + 1
  | .held _ => 1
def uptoBulkAll {H : Type} : List (DataW H) → Nat
  | [] => 0
  | d :: r => uptoBulk d + uptoBulkAll r
def uptoBulkEntries {H : Type} : List (Lit × DataW H) → Nat
  | [] => 0
  | x :: r => uptoBulkEntry x + uptoBulkEntries r
def uptoBulkEntry {H : Type} : Lit × DataW H → Nat
  | (.string bytes, d) => bytes.length + uptoBulk d + 1
  | (_, d) => uptoBulk d + 1
 end
def uptoSmall : (H : Type) → List (DataW H) → Bool := fun _ ds => decide (uptoBulkAll ds ≤ 1048576)
def OpenSpec.upto (s : _root_.Go.ChangeSpec) : _root_.Go.OpenSpec := { _root_.Go.OpenSpec.ofChange s with cond := some uptoSmall }

/-- 'furrowlaw12.SumsCRC', WHERE WHAT IT READS IS OF BULK AT MOST 1048576: true; the input reads as it did. -/
def sumsCRCUptoRow : OpenClaim := { program := "ytdbfpmelhokeoaadoor", sum := "482b737ee7c71087a637cb1682874d2944e3c0d1929825297725636c31ce813d", func := "furrow/furrowlaw12.SumsCRC", spec := "sumsCRC", named := ["furrow/sums.fours"], apart := false, laid := [("furrow/sums.fours", laid_furrow_sums_fours)], narrowed := true }
def SumsCRCUptoSaid : Prop := sumsCRCUptoRow.holds Tryd.pinned (OpenSpec.upto sumsCRCSpec)

/-- 'furrowlaw12.SumsJoined', WHERE WHAT IT READS IS OF BULK AT MOST 1048576: true; the input reads as it did. -/
def sumsJoinedUptoRow : OpenClaim := { program := "ytdbfpmelhokeoaadoor", sum := "482b737ee7c71087a637cb1682874d2944e3c0d1929825297725636c31ce813d", func := "furrow/furrowlaw12.SumsJoined", spec := "sumsJoined", named := ["furrow/sums.fours"], apart := false, laid := [("furrow/sums.fours", laid_furrow_sums_fours)], narrowed := true }
def SumsJoinedUptoSaid : Prop := sumsJoinedUptoRow.holds Tryd.pinned (OpenSpec.upto sumsJoinedSpec)

/-- 'furrowlaw12.SumsPuts', WHERE WHAT IT READS IS OF BULK AT MOST 1048576: true; the input reads as it did. -/
def sumsPutsUptoRow : OpenClaim := { program := "ytdbfpmelhokeoaadoor", sum := "482b737ee7c71087a637cb1682874d2944e3c0d1929825297725636c31ce813d", func := "furrow/furrowlaw12.SumsPuts", spec := "sumsPuts", named := ["furrow/sums.fours"], apart := false, laid := [("furrow/sums.fours", laid_furrow_sums_fours)], narrowed := true }
def SumsPutsUptoSaid : Prop := sumsPutsUptoRow.holds Tryd.pinned (OpenSpec.upto sumsPutsSpec)

/-- 'furrowlaw12.SumsSizes', WHERE WHAT IT READS IS OF BULK AT MOST 1048576: true; the input reads as it did. -/
def sumsSizesUptoRow : OpenClaim := { program := "ytdbfpmelhokeoaadoor", sum := "482b737ee7c71087a637cb1682874d2944e3c0d1929825297725636c31ce813d", func := "furrow/furrowlaw12.SumsSizes", spec := "sumsSizes", named := ["furrow/sums.fours"], apart := false, laid := [("furrow/sums.fours", laid_furrow_sums_fours)], narrowed := true }
def SumsSizesUptoSaid : Prop := sumsSizesUptoRow.holds Tryd.pinned (OpenSpec.upto sumsSizesSpec)

/-- 'furrowlaw12.SumsTakes', WHERE WHAT IT READS IS OF BULK AT MOST 1048576: true; the input reads as it did. -/
def sumsTakesUptoRow : OpenClaim := { program := "ytdbfpmelhokeoaadoor", sum := "482b737ee7c71087a637cb1682874d2944e3c0d1929825297725636c31ce813d", func := "furrow/furrowlaw12.SumsTakes", spec := "sumsTakes", named := ["furrow/sums.fours"], apart := false, laid := [("furrow/sums.fours", laid_furrow_sums_fours)], narrowed := true }
def SumsTakesUptoSaid : Prop := sumsTakesUptoRow.holds Tryd.pinned (OpenSpec.upto sumsTakesSpec)

/-- 'furrowlaw12.SumsOpens', WHERE WHAT IT READS IS OF BULK AT MOST 1048576: true; the input reads as it did. -/
def sumsOpensUptoRow : OpenClaim := { program := "ytdbfpmelhokeoaadoor", sum := "482b737ee7c71087a637cb1682874d2944e3c0d1929825297725636c31ce813d", func := "furrow/furrowlaw12.SumsOpens", spec := "sumsOpens", named := ["furrow/sums.fours"], apart := false, laid := [("furrow/sums.fours", laid_furrow_sums_fours)], narrowed := true }
def SumsOpensUptoSaid : Prop := sumsOpensUptoRow.holds Tryd.pinned (OpenSpec.upto sumsOpensSpec)

/-- 'furrowlaw12.SumsBursts', WHERE WHAT IT READS IS OF BULK AT MOST 1048576: true; the input reads as it did. -/
def sumsBurstsUptoRow : OpenClaim := { program := "ytdbfpmelhokeoaadoor", sum := "482b737ee7c71087a637cb1682874d2944e3c0d1929825297725636c31ce813d", func := "furrow/furrowlaw12.SumsBursts", spec := "sumsBursts", named := ["furrow/sums.fours"], apart := false, laid := [("furrow/sums.fours", laid_furrow_sums_fours)], narrowed := true }
def SumsBurstsUptoSaid : Prop := sumsBurstsUptoRow.holds Tryd.pinned (OpenSpec.upto sumsBurstsSpec)

/-- 'furrowlaw12.SumsPieces', WHERE WHAT IT READS IS OF BULK AT MOST 1048576: true; the input reads as it did. -/
def sumsPiecesUptoRow : OpenClaim := { program := "ytdbfpmelhokeoaadoor", sum := "482b737ee7c71087a637cb1682874d2944e3c0d1929825297725636c31ce813d", func := "furrow/furrowlaw12.SumsPieces", spec := "sumsPieces", named := ["furrow/sums.fours"], apart := false, laid := [("furrow/sums.fours", laid_furrow_sums_fours)], narrowed := true }
def SumsPiecesUptoSaid : Prop := sumsPiecesUptoRow.holds Tryd.pinned (OpenSpec.upto sumsPiecesSpec)

/-- 'furrowlaw12.SumsBurst', WHERE WHAT IT READS IS OF BULK AT MOST 1048576: true; the input reads as it did. -/
def sumsBurstUptoRow : OpenClaim := { program := "ytdbfpmelhokeoaadoor", sum := "482b737ee7c71087a637cb1682874d2944e3c0d1929825297725636c31ce813d", func := "furrow/furrowlaw12.SumsBurst", spec := "sumsBurst", named := ["furrow/sums.fours"], apart := false, laid := [("furrow/sums.fours", laid_furrow_sums_fours)], narrowed := true }
def SumsBurstUptoSaid : Prop := sumsBurstUptoRow.holds Tryd.pinned (OpenSpec.upto sumsBurstSpec)

/-- 'furrowlaw12.SumsOne', WHERE WHAT IT READS IS OF BULK AT MOST 1048576: true; the input reads as it did. -/
def sumsOneUptoRow : OpenClaim := { program := "ytdbfpmelhokeoaadoor", sum := "482b737ee7c71087a637cb1682874d2944e3c0d1929825297725636c31ce813d", func := "furrow/furrowlaw12.SumsOne", spec := "sumsOne", named := ["furrow/sums.fours"], apart := false, laid := [("furrow/sums.fours", laid_furrow_sums_fours)], narrowed := true }
def SumsOneUptoSaid : Prop := sumsOneUptoRow.holds Tryd.pinned (OpenSpec.upto sumsOneSpec)

/-- 'furrowlaw12.SumsBack', WHERE WHAT IT READS IS OF BULK AT MOST 1048576: true; the input reads as it did. -/
def sumsBackUptoRow : OpenClaim := { program := "ytdbfpmelhokeoaadoor", sum := "482b737ee7c71087a637cb1682874d2944e3c0d1929825297725636c31ce813d", func := "furrow/furrowlaw12.SumsBack", spec := "sumsBack", named := ["furrow/sums.fours"], apart := false, laid := [("furrow/sums.fours", laid_furrow_sums_fours)], narrowed := true }
def SumsBackUptoSaid : Prop := sumsBackUptoRow.holds Tryd.pinned (OpenSpec.upto sumsBackSpec)

/-- 'furrowlaw12.SumsAdded', WHERE WHAT IT READS IS OF BULK AT MOST 1048576: true; the input reads as it did. -/
def sumsAddedUptoRow : OpenClaim := { program := "ytdbfpmelhokeoaadoor", sum := "482b737ee7c71087a637cb1682874d2944e3c0d1929825297725636c31ce813d", func := "furrow/furrowlaw12.SumsAdded", spec := "sumsAdded", named := ["furrow/sums.fours"], apart := false, laid := [("furrow/sums.fours", laid_furrow_sums_fours)], narrowed := true }
def SumsAddedUptoSaid : Prop := sumsAddedUptoRow.holds Tryd.pinned (OpenSpec.upto sumsAddedSpec)

/-- 'furrowlaw12.SumsNames', WHERE WHAT IT READS IS OF BULK AT MOST 1048576: true; the input reads as it did. -/
def sumsNamesUptoRow : OpenClaim := { program := "ytdbfpmelhokeoaadoor", sum := "482b737ee7c71087a637cb1682874d2944e3c0d1929825297725636c31ce813d", func := "furrow/furrowlaw12.SumsNames", spec := "sumsNames", named := ["furrow/sums.fours"], apart := false, laid := [("furrow/sums.fours", laid_furrow_sums_fours)], narrowed := true }
def SumsNamesUptoSaid : Prop := sumsNamesUptoRow.holds Tryd.pinned (OpenSpec.upto sumsNamesSpec)

end Rows
end Go.Proofs.YtdbfpmelhokeoaaDoor

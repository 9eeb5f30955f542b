/-
  No cell of these rows narrows 'for every input' (looked for: loops, veiled, ifaces, maps, wideKeys, modest, calm, conditions, laid).
  DERIVED. THE GIVEN ROWS OF THIS SEAT. 4 by the template 'for every input the law returns true; each argument reads behind the call as it read before'; 0 by the template 'total and deterministic' (their statements: YtmbekgfbnapelaaTotals.lean).
  GIVEN WITH THE SEED: the statements are not yours to turn. If you find one false, say at which input.
  Laid BY PROGRAM, IN A SANDBOX (cutbox-rows.mjs): the forced cells as the released guide's own fill.sh prints them over the translation 87e115bba7451ed2… (all of the seat's roots in one cut). By AI agents, Wed Nov 11 2026. No macro, syntax, notation, axiom, sorry.
-/
import Derived.Test.YtmbekgfbnapelaaChecked
import GoSem.Claim
import GoSem.ClaimJoined
import GoSem.ClaimMapViews
import Derived.JoinedTies
import Derived.KernelRfl
namespace Go.Proofs.Ytmbekgfbnapelaa
/- THE CELL 'sum', in the pinned program and in every row, IS THE sha256 OF THE DUMP (.gsa) THAT YtmbekgfbnapelaaProg.lean LOADS. Nothing in Lean hashes anything: it is a label: what it is worth is what the hold of that sum in a sandbox is worth. -/
noncomputable def Try.pinned : Pinned := { name := "ytmbekgfbnapelaa", sum := "87e115bba7451ed2dc532feb0aaa90fad55a87142ba4c5373d4598d2fdaf649e", checked := Try.checked }
namespace Rows
def none {H : Type} : Left H := { results := [], args := [] }

/-- 'cognatelaw02.FeatureNames': WHATEVER THE INPUT: true; the input reads as it did. -/
def featureNamesSpec : ChangeSpec := { name := "featureNames", fn := fun _ => fun
  | [] => { results := [.lit (.bool true)], args := [] }
  | _ => none }
def featureNamesRow : OpenClaim := { program := "ytmbekgfbnapelaa", sum := "87e115bba7451ed2dc532feb0aaa90fad55a87142ba4c5373d4598d2fdaf649e", func := "cognate/cognatelaw02.FeatureNames", spec := "featureNames", inPlace := ["internal/abi.NoEscape"], recurses := true, apart := false }
def FeatureNamesSaid : Prop := featureNamesRow.holds Try.pinned (OpenSpec.ofChange featureNamesSpec)

/-- ITS FALSE NEIGHBOUR: 'it returns false'. Refute it at one input. -/
def featureNamesWrong : ChangeSpec := { name := "featureNames", fn := fun _ => fun
  | [] => { results := [.lit (.bool false)], args := [] }
  | _ => none }
def FeatureNamesWrongFalsely : Prop := featureNamesRow.holds Try.pinned (OpenSpec.ofChange featureNamesWrong)

/-- 'cognatelaw02.FeatureClasses': WHATEVER THE INPUT: true; the input reads as it did. -/
def featureClassesSpec : ChangeSpec := { name := "featureClasses", fn := fun _ => fun
  | [d1, d2, d3, d4, d5] => { results := [.lit (.bool true)], args := [d1, d2, d3, d4, d5] }
  | _ => none }
def featureClassesRow : OpenClaim := { program := "ytmbekgfbnapelaa", sum := "87e115bba7451ed2dc532feb0aaa90fad55a87142ba4c5373d4598d2fdaf649e", func := "cognate/cognatelaw02.FeatureClasses", spec := "featureClasses", inPlace := ["internal/abi.NoEscape"], recurses := true, apart := false }
def FeatureClassesSaid : Prop := featureClassesRow.holds Try.pinned (OpenSpec.ofChange featureClassesSpec)

/-- ITS FALSE NEIGHBOUR: 'it returns false'. Refute it at one input. -/
def featureClassesWrong : ChangeSpec := { name := "featureClasses", fn := fun _ => fun
  | [d1, d2, d3, d4, d5] => { results := [.lit (.bool false)], args := [d1, d2, d3, d4, d5] }
  | _ => none }
def FeatureClassesWrongFalsely : Prop := featureClassesRow.holds Try.pinned (OpenSpec.ofChange featureClassesWrong)

/-- 'cognatelaw02.FeatureTexts': WHATEVER THE INPUT: true; the input reads as it did. -/
def featureTextsSpec : ChangeSpec := { name := "featureTexts", fn := fun _ => fun
  | [d1, d2, d3, d4, d5] => { results := [.lit (.bool true)], args := [d1, d2, d3, d4, d5] }
  | _ => none }
def featureTextsRow : OpenClaim := { program := "ytmbekgfbnapelaa", sum := "87e115bba7451ed2dc532feb0aaa90fad55a87142ba4c5373d4598d2fdaf649e", func := "cognate/cognatelaw02.FeatureTexts", spec := "featureTexts", inPlace := ["internal/abi.NoEscape"], recurses := true, apart := false }
def FeatureTextsSaid : Prop := featureTextsRow.holds Try.pinned (OpenSpec.ofChange featureTextsSpec)

/-- ITS FALSE NEIGHBOUR: 'it returns false'. Refute it at one input. -/
def featureTextsWrong : ChangeSpec := { name := "featureTexts", fn := fun _ => fun
  | [d1, d2, d3, d4, d5] => { results := [.lit (.bool false)], args := [d1, d2, d3, d4, d5] }
  | _ => none }
def FeatureTextsWrongFalsely : Prop := featureTextsRow.holds Try.pinned (OpenSpec.ofChange featureTextsWrong)

/-- 'cognatelaw04.PatternMakes': WHATEVER THE INPUT: true; the input reads as it did. -/
def patternMakesSpec : ChangeSpec := { name := "patternMakes", fn := fun _ => fun
  | [d1, d2, d3, d4, d5] => { results := [.lit (.bool true)], args := [d1, d2, d3, d4, d5] }
  | _ => none }
def patternMakesRow : OpenClaim := { program := "ytmbekgfbnapelaa", sum := "87e115bba7451ed2dc532feb0aaa90fad55a87142ba4c5373d4598d2fdaf649e", func := "cognate/cognatelaw04.PatternMakes", spec := "patternMakes", unfollowed := true, recurses := true, apart := false }
def PatternMakesSaid : Prop := patternMakesRow.holds Try.pinned (OpenSpec.ofChange patternMakesSpec)

/-- ITS FALSE NEIGHBOUR: 'it returns false'. Refute it at one input. -/
def patternMakesWrong : ChangeSpec := { name := "patternMakes", fn := fun _ => fun
  | [d1, d2, d3, d4, d5] => { results := [.lit (.bool false)], args := [d1, d2, d3, d4, d5] }
  | _ => none }
def PatternMakesWrongFalsely : Prop := patternMakesRow.holds Try.pinned (OpenSpec.ofChange patternMakesWrong)

/- THE SECOND FORM. 'bulk': how many values and letters a reading holds, each counted each time it is reached (what is shared counts as often as it is met; a slice's spare places count too). A statement '..UptoSaid' is the law's where the arguments, and the package variables that the reading takes, are together of bulk at most 1048576: NARROWER than '..Said'. Prove '..Said' where nothing that the law and all that it calls make is longer than what came in: it says more and counts as full. Else prove '..UptoSaid'. A law counts once. -/
mutual
def uptoBulk {H : Type} : DataW H → Nat
  | .lit (.string bytes) => bytes.length + 1
  | .lit _ => 1
  | .nil => 1
  | .ptr d => uptoBulk d + 1
  | .slice elems spare => uptoBulkAll elems + uptoBulkAll spare + 1
  | .agg parts => uptoBulkAll parts + 1
  | .iface _ d => uptoBulk d + 1
  | .map entries => uptoBulkEntries entries + 1
  | .held _ => 1
def uptoBulkAll {H : Type} : List (DataW H) → Nat
  | [] => 0
  | d :: r => uptoBulk d + uptoBulkAll r
def uptoBulkEntries {H : Type} : List (Lit × DataW H) → Nat
  | [] => 0
  | x :: r => uptoBulkEntry x + uptoBulkEntries r
def uptoBulkEntry {H : Type} : Lit × DataW H → Nat
  | (.string bytes, d) => bytes.length + uptoBulk d + 1
  | (_, d) => uptoBulk d + 1
 end
def uptoSmall : (H : Type) → List (DataW H) → Bool := fun _ ds => decide (uptoBulkAll ds ≤ 1048576)
def OpenSpec.upto (s : _root_.Go.ChangeSpec) : _root_.Go.OpenSpec := { _root_.Go.OpenSpec.ofChange s with cond := some uptoSmall }

/-- 'cognatelaw02.FeatureNames', WHERE WHAT IT READS IS OF BULK AT MOST 1048576: true; the input reads as it did. -/
def featureNamesUptoRow : OpenClaim := { program := "ytmbekgfbnapelaa", sum := "87e115bba7451ed2dc532feb0aaa90fad55a87142ba4c5373d4598d2fdaf649e", func := "cognate/cognatelaw02.FeatureNames", spec := "featureNames", inPlace := ["internal/abi.NoEscape"], recurses := true, apart := false, narrowed := true }
def FeatureNamesUptoSaid : Prop := featureNamesUptoRow.holds Try.pinned (OpenSpec.upto featureNamesSpec)

/-- 'cognatelaw02.FeatureClasses', WHERE WHAT IT READS IS OF BULK AT MOST 1048576: true; the input reads as it did. -/
def featureClassesUptoRow : OpenClaim := { program := "ytmbekgfbnapelaa", sum := "87e115bba7451ed2dc532feb0aaa90fad55a87142ba4c5373d4598d2fdaf649e", func := "cognate/cognatelaw02.FeatureClasses", spec := "featureClasses", inPlace := ["internal/abi.NoEscape"], recurses := true, apart := false, narrowed := true }
def FeatureClassesUptoSaid : Prop := featureClassesUptoRow.holds Try.pinned (OpenSpec.upto featureClassesSpec)

/-- 'cognatelaw02.FeatureTexts', WHERE WHAT IT READS IS OF BULK AT MOST 1048576: true; the input reads as it did. -/
def featureTextsUptoRow : OpenClaim := { program := "ytmbekgfbnapelaa", sum := "87e115bba7451ed2dc532feb0aaa90fad55a87142ba4c5373d4598d2fdaf649e", func := "cognate/cognatelaw02.FeatureTexts", spec := "featureTexts", inPlace := ["internal/abi.NoEscape"], recurses := true, apart := false, narrowed := true }
def FeatureTextsUptoSaid : Prop := featureTextsUptoRow.holds Try.pinned (OpenSpec.upto featureTextsSpec)

/-- 'cognatelaw04.PatternMakes', WHERE WHAT IT READS IS OF BULK AT MOST 1048576: true; the input reads as it did. -/
def patternMakesUptoRow : OpenClaim := { program := "ytmbekgfbnapelaa", sum := "87e115bba7451ed2dc532feb0aaa90fad55a87142ba4c5373d4598d2fdaf649e", func := "cognate/cognatelaw04.PatternMakes", spec := "patternMakes", unfollowed := true, recurses := true, apart := false, narrowed := true }
def PatternMakesUptoSaid : Prop := patternMakesUptoRow.holds Try.pinned (OpenSpec.upto patternMakesSpec)

end Rows
end Go.Proofs.Ytmbekgfbnapelaa

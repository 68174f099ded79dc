/-
  No cell of these rows narrows 'for every input' (looked for: loops, veiled, ifaces, maps, wideKeys, modest, calm, conditions, laid).
  DERIVED. THE GIVEN ROWS OF THIS SEAT. 7 by the template 'for every input the law returns true; each argument reads behind the call as it read before'; 0 by the template 'total and deterministic' (their statements: YthjeiaildabadaaGreatTotals.lean).
  GIVEN WITH THE SEED: the statements are not yours to turn. If you find one false, say at which input.
  Laid BY PROGRAM, IN A SANDBOX (cutbox-rows.mjs): the forced cells as the released guide's own fill.sh prints them over the translation 759d62af0be26082… (all of the seat's roots in one cut). By AI agents, Wed Nov 11 2026. No macro, syntax, notation, axiom, sorry.
-/
import Derived.Test.YthjeiaildabadaaGreatChecked
import GoSem.Claim
import GoSem.ClaimJoined
import GoSem.ClaimMapViews
import Derived.JoinedTies
import Derived.KernelRfl
namespace Go.Proofs.YthjeiaildabadaaGreat
/- THE CELL 'sum', in the pinned program and in every row, IS THE sha256 OF THE DUMP (.gsa) THAT YthjeiaildabadaaGreatProg.lean LOADS. Nothing in Lean hashes anything: it is a label: what it is worth is what the hold of that sum in a sandbox is worth. -/
noncomputable def Tryz.pinned : Pinned := { name := "ythjeiaildabadaagreat", sum := "759d62af0be26082ade5e853a7cf5a72e4604253660f628d565801859590d9ab", checked := Tryz.checked }
namespace Rows
def none {H : Type} : Left H := { results := [], args := [] }

/-- 'bonehouselaw04.TiesStrengths': WHATEVER THE INPUT: true; the input reads as it did. -/
def tiesStrengthsSpec : ChangeSpec := { name := "tiesStrengths", fn := fun _ => fun
  | [d1, d2, d3] => { results := [.lit (.bool true)], args := [d1, d2, d3] }
  | _ => none }
def tiesStrengthsRow : OpenClaim := { program := "ythjeiaildabadaagreat", sum := "759d62af0be26082ade5e853a7cf5a72e4604253660f628d565801859590d9ab", func := "bonehouse/bonehouselaw04.TiesStrengths", spec := "tiesStrengths", unfollowed := true, recurses := true, apart := false }
def TiesStrengthsSaid : Prop := tiesStrengthsRow.holds Tryz.pinned (OpenSpec.ofChange tiesStrengthsSpec)

/-- ITS FALSE NEIGHBOUR: 'it returns false'. Refute it at one input. -/
def tiesStrengthsWrong : ChangeSpec := { name := "tiesStrengths", fn := fun _ => fun
  | [d1, d2, d3] => { results := [.lit (.bool false)], args := [d1, d2, d3] }
  | _ => none }
def TiesStrengthsWrongFalsely : Prop := tiesStrengthsRow.holds Tryz.pinned (OpenSpec.ofChange tiesStrengthsWrong)

/-- 'bonehouselaw04.TiesQuotients': WHATEVER THE INPUT: true; the input reads as it did. -/
def tiesQuotientsSpec : ChangeSpec := { name := "tiesQuotients", fn := fun _ => fun
  | [d] => { results := [.lit (.bool true)], args := [d] }
  | _ => none }
def tiesQuotientsRow : OpenClaim := { program := "ythjeiaildabadaagreat", sum := "759d62af0be26082ade5e853a7cf5a72e4604253660f628d565801859590d9ab", func := "bonehouse/bonehouselaw04.TiesQuotients", spec := "tiesQuotients", unfollowed := true, recurses := true, apart := false }
def TiesQuotientsSaid : Prop := tiesQuotientsRow.holds Tryz.pinned (OpenSpec.ofChange tiesQuotientsSpec)

/-- ITS FALSE NEIGHBOUR: 'it returns false'. Refute it at one input. -/
def tiesQuotientsWrong : ChangeSpec := { name := "tiesQuotients", fn := fun _ => fun
  | [d] => { results := [.lit (.bool false)], args := [d] }
  | _ => none }
def TiesQuotientsWrongFalsely : Prop := tiesQuotientsRow.holds Tryz.pinned (OpenSpec.ofChange tiesQuotientsWrong)

/-- 'bonehouselaw04.TiesSources': WHATEVER THE INPUT: true; the input reads as it did. -/
def tiesSourcesSpec : ChangeSpec := { name := "tiesSources", fn := fun _ => fun
  | [d1, d2, d3] => { results := [.lit (.bool true)], args := [d1, d2, d3] }
  | _ => none }
def tiesSourcesRow : OpenClaim := { program := "ythjeiaildabadaagreat", sum := "759d62af0be26082ade5e853a7cf5a72e4604253660f628d565801859590d9ab", func := "bonehouse/bonehouselaw04.TiesSources", spec := "tiesSources", unfollowed := true, recurses := true, apart := false }
def TiesSourcesSaid : Prop := tiesSourcesRow.holds Tryz.pinned (OpenSpec.ofChange tiesSourcesSpec)

/-- ITS FALSE NEIGHBOUR: 'it returns false'. Refute it at one input. -/
def tiesSourcesWrong : ChangeSpec := { name := "tiesSources", fn := fun _ => fun
  | [d1, d2, d3] => { results := [.lit (.bool false)], args := [d1, d2, d3] }
  | _ => none }
def TiesSourcesWrongFalsely : Prop := tiesSourcesRow.holds Tryz.pinned (OpenSpec.ofChange tiesSourcesWrong)

/-- 'bonehouselaw04.TiesBottleneck': WHATEVER THE INPUT: true; the input reads as it did. -/
def tiesBottleneckSpec : ChangeSpec := { name := "tiesBottleneck", fn := fun _ => fun
  | [d1, d2, d3, d4, d5] => { results := [.lit (.bool true)], args := [d1, d2, d3, d4, d5] }
  | _ => none }
def tiesBottleneckRow : OpenClaim := { program := "ythjeiaildabadaagreat", sum := "759d62af0be26082ade5e853a7cf5a72e4604253660f628d565801859590d9ab", func := "bonehouse/bonehouselaw04.TiesBottleneck", spec := "tiesBottleneck", unfollowed := true, recurses := true, apart := false }
def TiesBottleneckSaid : Prop := tiesBottleneckRow.holds Tryz.pinned (OpenSpec.ofChange tiesBottleneckSpec)

/-- ITS FALSE NEIGHBOUR: 'it returns false'. Refute it at one input. -/
def tiesBottleneckWrong : ChangeSpec := { name := "tiesBottleneck", fn := fun _ => fun
  | [d1, d2, d3, d4, d5] => { results := [.lit (.bool false)], args := [d1, d2, d3, d4, d5] }
  | _ => none }
def TiesBottleneckWrongFalsely : Prop := tiesBottleneckRow.holds Tryz.pinned (OpenSpec.ofChange tiesBottleneckWrong)

/-- 'bonehouselaw04.TiesSound': WHATEVER THE INPUT: true; the input reads as it did. -/
def tiesSoundSpec : ChangeSpec := { name := "tiesSound", fn := fun _ => fun
  | [d1, d2] => { results := [.lit (.bool true)], args := [d1, d2] }
  | _ => none }
def tiesSoundRow : OpenClaim := { program := "ythjeiaildabadaagreat", sum := "759d62af0be26082ade5e853a7cf5a72e4604253660f628d565801859590d9ab", func := "bonehouse/bonehouselaw04.TiesSound", spec := "tiesSound", unfollowed := true, recurses := true, apart := false }
def TiesSoundSaid : Prop := tiesSoundRow.holds Tryz.pinned (OpenSpec.ofChange tiesSoundSpec)

/-- ITS FALSE NEIGHBOUR: 'it returns false'. Refute it at one input. -/
def tiesSoundWrong : ChangeSpec := { name := "tiesSound", fn := fun _ => fun
  | [d1, d2] => { results := [.lit (.bool false)], args := [d1, d2] }
  | _ => none }
def TiesSoundWrongFalsely : Prop := tiesSoundRow.holds Tryz.pinned (OpenSpec.ofChange tiesSoundWrong)

/-- 'bonehouselaw04.TiesQuotient': WHATEVER THE INPUT: true; the input reads as it did. -/
def tiesQuotientSpec : ChangeSpec := { name := "tiesQuotient", fn := fun _ => fun
  | [d1, d2, d3] => { results := [.lit (.bool true)], args := [d1, d2, d3] }
  | _ => none }
def tiesQuotientRow : OpenClaim := { program := "ythjeiaildabadaagreat", sum := "759d62af0be26082ade5e853a7cf5a72e4604253660f628d565801859590d9ab", func := "bonehouse/bonehouselaw04.TiesQuotient", spec := "tiesQuotient", unfollowed := true, recurses := true, apart := false }
def TiesQuotientSaid : Prop := tiesQuotientRow.holds Tryz.pinned (OpenSpec.ofChange tiesQuotientSpec)

/-- ITS FALSE NEIGHBOUR: 'it returns false'. Refute it at one input. -/
def tiesQuotientWrong : ChangeSpec := { name := "tiesQuotient", fn := fun _ => fun
  | [d1, d2, d3] => { results := [.lit (.bool false)], args := [d1, d2, d3] }
  | _ => none }
def TiesQuotientWrongFalsely : Prop := tiesQuotientRow.holds Tryz.pinned (OpenSpec.ofChange tiesQuotientWrong)

/-- 'bonehouselaw04.TiesRests': WHATEVER THE INPUT: true; the input reads as it did. -/
def tiesRestsSpec : ChangeSpec := { name := "tiesRests", fn := fun _ => fun
  | [d1, d2, d3, d4] => { results := [.lit (.bool true)], args := [d1, d2, d3, d4] }
  | _ => none }
def tiesRestsRow : OpenClaim := { program := "ythjeiaildabadaagreat", sum := "759d62af0be26082ade5e853a7cf5a72e4604253660f628d565801859590d9ab", func := "bonehouse/bonehouselaw04.TiesRests", spec := "tiesRests", unfollowed := true, recurses := true, apart := false }
def TiesRestsSaid : Prop := tiesRestsRow.holds Tryz.pinned (OpenSpec.ofChange tiesRestsSpec)

/-- ITS FALSE NEIGHBOUR: 'it returns false'. Refute it at one input. -/
def tiesRestsWrong : ChangeSpec := { name := "tiesRests", fn := fun _ => fun
  | [d1, d2, d3, d4] => { results := [.lit (.bool false)], args := [d1, d2, d3, d4] }
  | _ => none }
def TiesRestsWrongFalsely : Prop := tiesRestsRow.holds Tryz.pinned (OpenSpec.ofChange tiesRestsWrong)

/- THE SECOND FORM. 'bulk': how many values and letters a reading holds, each counted each time it is reached (what is shared counts as often as it is met; a slice's spare places count too). A statement '..UptoSaid' is the law's where the arguments, and the package variables that the reading takes, are together of bulk at most 1048576: NARROWER than '..Said'. Prove '..Said' where nothing that the law and all that it calls make is longer than what came in: it says more and counts as full. Else prove '..UptoSaid'. A law counts once. -/
mutual
def uptoBulk {H : Type} : DataW H → Nat
  | .lit (.string bytes) => bytes.length + 1
  | .lit _ => 1
  | .nil => 1
  | .ptr d => uptoBulk d + 1
  | .slice elems spare => uptoBulkAll elems + uptoBulkAll spare + 1
  | .agg parts => uptoBulkAll parts + 1
  | .iface _ d => uptoBulk d + 1
  | .map entries => uptoBulkEntries entries + 1
  | .held _ => 1
def uptoBulkAll {H : Type} : List (DataW H) → Nat
  | [] => 0
  | d :: r => uptoBulk d + uptoBulkAll r
def uptoBulkEntries {H : Type} : List (Lit × DataW H) → Nat
  | [] => 0
  | x :: r => uptoBulkEntry x + uptoBulkEntries r
def uptoBulkEntry {H : Type} : Lit × DataW H → Nat
  | (.string bytes, d) => bytes.length + uptoBulk d + 1
  | (_, d) => uptoBulk d + 1
 end
def uptoSmall : (H : Type) → List (DataW H) → Bool := fun _ ds => decide (uptoBulkAll ds ≤ 1048576)
def OpenSpec.upto (s : _root_.Go.ChangeSpec) : _root_.Go.OpenSpec := { _root_.Go.OpenSpec.ofChange s with cond := some uptoSmall }

/-- 'bonehouselaw04.TiesStrengths', WHERE WHAT IT READS IS OF BULK AT MOST 1048576: true; the input reads as it did. -/
def tiesStrengthsUptoRow : OpenClaim := { program := "ythjeiaildabadaagreat", sum := "759d62af0be26082ade5e853a7cf5a72e4604253660f628d565801859590d9ab", func := "bonehouse/bonehouselaw04.TiesStrengths", spec := "tiesStrengths", unfollowed := true, recurses := true, apart := false, narrowed := true }
def TiesStrengthsUptoSaid : Prop := tiesStrengthsUptoRow.holds Tryz.pinned (OpenSpec.upto tiesStrengthsSpec)

/-- 'bonehouselaw04.TiesQuotients', WHERE WHAT IT READS IS OF BULK AT MOST 1048576: true; the input reads as it did. -/
def tiesQuotientsUptoRow : OpenClaim := { program := "ythjeiaildabadaagreat", sum := "759d62af0be26082ade5e853a7cf5a72e4604253660f628d565801859590d9ab", func := "bonehouse/bonehouselaw04.TiesQuotients", spec := "tiesQuotients", unfollowed := true, recurses := true, apart := false, narrowed := true }
def TiesQuotientsUptoSaid : Prop := tiesQuotientsUptoRow.holds Tryz.pinned (OpenSpec.upto tiesQuotientsSpec)

/-- 'bonehouselaw04.TiesSources', WHERE WHAT IT READS IS OF BULK AT MOST 1048576: true; the input reads as it did. -/
def tiesSourcesUptoRow : OpenClaim := { program := "ythjeiaildabadaagreat", sum := "759d62af0be26082ade5e853a7cf5a72e4604253660f628d565801859590d9ab", func := "bonehouse/bonehouselaw04.TiesSources", spec := "tiesSources", unfollowed := true, recurses := true, apart := false, narrowed := true }
def TiesSourcesUptoSaid : Prop := tiesSourcesUptoRow.holds Tryz.pinned (OpenSpec.upto tiesSourcesSpec)

/-- 'bonehouselaw04.TiesBottleneck', WHERE WHAT IT READS IS OF BULK AT MOST 1048576: true; the input reads as it did. -/
def tiesBottleneckUptoRow : OpenClaim := { program := "ythjeiaildabadaagreat", sum := "759d62af0be26082ade5e853a7cf5a72e4604253660f628d565801859590d9ab", func := "bonehouse/bonehouselaw04.TiesBottleneck", spec := "tiesBottleneck", unfollowed := true, recurses := true, apart := false, narrowed := true }
def TiesBottleneckUptoSaid : Prop := tiesBottleneckUptoRow.holds Tryz.pinned (OpenSpec.upto tiesBottleneckSpec)

/-- 'bonehouselaw04.TiesSound', WHERE WHAT IT READS IS OF BULK AT MOST 1048576: true; the input reads as it did. -/
def tiesSoundUptoRow : OpenClaim := { program := "ythjeiaildabadaagreat", sum := "759d62af0be26082ade5e853a7cf5a72e4604253660f628d565801859590d9ab", func := "bonehouse/bonehouselaw04.TiesSound", spec := "tiesSound", unfollowed := true, recurses := true, apart := false, narrowed := true }
def TiesSoundUptoSaid : Prop := tiesSoundUptoRow.holds Tryz.pinned (OpenSpec.upto tiesSoundSpec)

/-- 'bonehouselaw04.TiesQuotient', WHERE WHAT IT READS IS OF BULK AT MOST 1048576: true; the input reads as it did. -/
def tiesQuotientUptoRow : OpenClaim := { program := "ythjeiaildabadaagreat", sum := "759d62af0be26082ade5e853a7cf5a72e4604253660f628d565801859590d9ab", func := "bonehouse/bonehouselaw04.TiesQuotient", spec := "tiesQuotient", unfollowed := true, recurses := true, apart := false, narrowed := true }
def TiesQuotientUptoSaid : Prop := tiesQuotientUptoRow.holds Tryz.pinned (OpenSpec.upto tiesQuotientSpec)

/-- 'bonehouselaw04.TiesRests', WHERE WHAT IT READS IS OF BULK AT MOST 1048576: true; the input reads as it did. -/
def tiesRestsUptoRow : OpenClaim := { program := "ythjeiaildabadaagreat", sum := "759d62af0be26082ade5e853a7cf5a72e4604253660f628d565801859590d9ab", func := "bonehouse/bonehouselaw04.TiesRests", spec := "tiesRests", unfollowed := true, recurses := true, apart := false, narrowed := true }
def TiesRestsUptoSaid : Prop := tiesRestsUptoRow.holds Tryz.pinned (OpenSpec.upto tiesRestsSpec)

end Rows
end Go.Proofs.YthjeiaildabadaaGreat

/-
  No cell of these rows narrows 'for every input' (looked for: loops, veiled, ifaces, maps, wideKeys, modest, calm, conditions, laid).
  DERIVED. THE GIVEN ROWS OF THIS SEAT. 4 by the template 'for every input the law returns true; each argument reads behind the call as it read before'; 0 by the template 'total and deterministic' (their statements: YtjcafjffmiknmaaGreatTotals.lean).
  GIVEN WITH THE SEED: the statements are not yours to turn. If you find one false, say at which input.
  Laid BY PROGRAM, IN A SANDBOX (cutbox-rows.mjs): the forced cells as the released guide's own fill.sh prints them over the translation 8c8162cfad27cbb3… (all of the seat's roots in one cut). By AI agents, Wed Nov 11 2026. No macro, syntax, notation, axiom, sorry.
-/
import Derived.Test.YtjcafjffmiknmaaGreatChecked
import GoSem.Claim
import GoSem.ClaimJoined
import GoSem.ClaimMapViews
import Derived.JoinedTies
import Derived.KernelRfl
namespace Go.Proofs.YtjcafjffmiknmaaGreat
/- THE CELL 'sum', in the pinned program and in every row, IS THE sha256 OF THE DUMP (.gsa) THAT YtjcafjffmiknmaaGreatProg.lean LOADS. Nothing in Lean hashes anything: it is a label: what it is worth is what the hold of that sum in a sandbox is worth. -/
noncomputable def Tryz.pinned : Pinned := { name := "ytjcafjffmiknmaagreat", sum := "8c8162cfad27cbb3a41050bdd910bcf3c7fbe23458b09e4f958fb9c928504cec", checked := Tryz.checked }
namespace Rows
def none {H : Type} : Left H := { results := [], args := [] }

/-- 'bonehouselaw04.TiesChains': WHATEVER THE INPUT: true; the input reads as it did. -/
def tiesChainsSpec : ChangeSpec := { name := "tiesChains", fn := fun _ => fun
  | [d1, d2, d3, d4] => { results := [.lit (.bool true)], args := [d1, d2, d3, d4] }
  | _ => none }
def tiesChainsRow : OpenClaim := { program := "ytjcafjffmiknmaagreat", sum := "8c8162cfad27cbb3a41050bdd910bcf3c7fbe23458b09e4f958fb9c928504cec", func := "bonehouse/bonehouselaw04.TiesChains", spec := "tiesChains", unfollowed := true, recurses := true, apart := false }
def TiesChainsSaid : Prop := tiesChainsRow.holds Tryz.pinned (OpenSpec.ofChange tiesChainsSpec)

/-- ITS FALSE NEIGHBOUR: 'it returns false'. Refute it at one input. -/
def tiesChainsWrong : ChangeSpec := { name := "tiesChains", fn := fun _ => fun
  | [d1, d2, d3, d4] => { results := [.lit (.bool false)], args := [d1, d2, d3, d4] }
  | _ => none }
def TiesChainsWrongFalsely : Prop := tiesChainsRow.holds Tryz.pinned (OpenSpec.ofChange tiesChainsWrong)

/-- 'bonehouselaw04.TiesClashes': WHATEVER THE INPUT: true; the input reads as it did. -/
def tiesClashesSpec : ChangeSpec := { name := "tiesClashes", fn := fun _ => fun
  | [d1, d2] => { results := [.lit (.bool true)], args := [d1, d2] }
  | _ => none }
def tiesClashesRow : OpenClaim := { program := "ytjcafjffmiknmaagreat", sum := "8c8162cfad27cbb3a41050bdd910bcf3c7fbe23458b09e4f958fb9c928504cec", func := "bonehouse/bonehouselaw04.TiesClashes", spec := "tiesClashes", unfollowed := true, recurses := true, apart := false }
def TiesClashesSaid : Prop := tiesClashesRow.holds Tryz.pinned (OpenSpec.ofChange tiesClashesSpec)

/-- ITS FALSE NEIGHBOUR: 'it returns false'. Refute it at one input. -/
def tiesClashesWrong : ChangeSpec := { name := "tiesClashes", fn := fun _ => fun
  | [d1, d2] => { results := [.lit (.bool false)], args := [d1, d2] }
  | _ => none }
def TiesClashesWrongFalsely : Prop := tiesClashesRow.holds Tryz.pinned (OpenSpec.ofChange tiesClashesWrong)

/-- 'bonehouselaw04.TiesFollows': WHATEVER THE INPUT: true; the input reads as it did. -/
def tiesFollowsSpec : ChangeSpec := { name := "tiesFollows", fn := fun _ => fun
  | [d1, d2, d3, d4] => { results := [.lit (.bool true)], args := [d1, d2, d3, d4] }
  | _ => none }
def tiesFollowsRow : OpenClaim := { program := "ytjcafjffmiknmaagreat", sum := "8c8162cfad27cbb3a41050bdd910bcf3c7fbe23458b09e4f958fb9c928504cec", func := "bonehouse/bonehouselaw04.TiesFollows", spec := "tiesFollows", unfollowed := true, recurses := true, apart := false }
def TiesFollowsSaid : Prop := tiesFollowsRow.holds Tryz.pinned (OpenSpec.ofChange tiesFollowsSpec)

/-- ITS FALSE NEIGHBOUR: 'it returns false'. Refute it at one input. -/
def tiesFollowsWrong : ChangeSpec := { name := "tiesFollows", fn := fun _ => fun
  | [d1, d2, d3, d4] => { results := [.lit (.bool false)], args := [d1, d2, d3, d4] }
  | _ => none }
def TiesFollowsWrongFalsely : Prop := tiesFollowsRow.holds Tryz.pinned (OpenSpec.ofChange tiesFollowsWrong)

/-- 'bonehouselaw04.TiesWitness': WHATEVER THE INPUT: true; the input reads as it did. -/
def tiesWitnessSpec : ChangeSpec := { name := "tiesWitness", fn := fun _ => fun
  | [d1, d2, d3, d4] => { results := [.lit (.bool true)], args := [d1, d2, d3, d4] }
  | _ => none }
def tiesWitnessRow : OpenClaim := { program := "ytjcafjffmiknmaagreat", sum := "8c8162cfad27cbb3a41050bdd910bcf3c7fbe23458b09e4f958fb9c928504cec", func := "bonehouse/bonehouselaw04.TiesWitness", spec := "tiesWitness", unfollowed := true, recurses := true, apart := false }
def TiesWitnessSaid : Prop := tiesWitnessRow.holds Tryz.pinned (OpenSpec.ofChange tiesWitnessSpec)

/-- ITS FALSE NEIGHBOUR: 'it returns false'. Refute it at one input. -/
def tiesWitnessWrong : ChangeSpec := { name := "tiesWitness", fn := fun _ => fun
  | [d1, d2, d3, d4] => { results := [.lit (.bool false)], args := [d1, d2, d3, d4] }
  | _ => none }
def TiesWitnessWrongFalsely : Prop := tiesWitnessRow.holds Tryz.pinned (OpenSpec.ofChange tiesWitnessWrong)

/- THE SECOND FORM. 'bulk': how many values and letters a reading holds, each counted each time it is reached (what is shared counts as often as it is met; a slice's spare places count too). A statement '..UptoSaid' is the law's where the arguments, and the package variables that the reading takes, are together of bulk at most 1048576: NARROWER than '..Said'. Prove '..Said' where nothing that the law and all that it calls make is longer than what came in: it says more and counts as full. Else prove '..UptoSaid'. A law counts once. -/
mutual
def uptoBulk {H : Type} : DataW H → Nat
  | .lit (.string bytes) => bytes.length + 1
  | .lit _ => 1
  | .nil => 1
  | .ptr d => uptoBulk d + 1
  | .slice elems spare => uptoBulkAll elems + uptoBulkAll spare + 1
  | .agg parts => uptoBulkAll parts + 1
  | .iface _ d => uptoBulk d + 1
  | .map entries => uptoBulkEntries entries + 1
  | .held _ => 1
def uptoBulkAll {H : Type} : List (DataW H) → Nat
  | [] => 0
  | d :: r => uptoBulk d + uptoBulkAll r
def uptoBulkEntries {H : Type} : List (Lit × DataW H) → Nat
  | [] => 0
  | x :: r => uptoBulkEntry x + uptoBulkEntries r
def uptoBulkEntry {H : Type} : Lit × DataW H → Nat
  | (.string bytes, d) => bytes.length + uptoBulk d + 1
  | (_, d) => uptoBulk d + 1
 end
def uptoSmall : (H : Type) → List (DataW H) → Bool := fun _ ds => decide (uptoBulkAll ds ≤ 1048576)
def OpenSpec.upto (s : _root_.Go.ChangeSpec) : _root_.Go.OpenSpec := { _root_.Go.OpenSpec.ofChange s with cond := some uptoSmall }

/-- 'bonehouselaw04.TiesChains', WHERE WHAT IT READS IS OF BULK AT MOST 1048576: true; the input reads as it did. -/
def tiesChainsUptoRow : OpenClaim := { program := "ytjcafjffmiknmaagreat", sum := "8c8162cfad27cbb3a41050bdd910bcf3c7fbe23458b09e4f958fb9c928504cec", func := "bonehouse/bonehouselaw04.TiesChains", spec := "tiesChains", unfollowed := true, recurses := true, apart := false, narrowed := true }
def TiesChainsUptoSaid : Prop := tiesChainsUptoRow.holds Tryz.pinned (OpenSpec.upto tiesChainsSpec)

/-- 'bonehouselaw04.TiesClashes', WHERE WHAT IT READS IS OF BULK AT MOST 1048576: true; the input reads as it did. -/
def tiesClashesUptoRow : OpenClaim := { program := "ytjcafjffmiknmaagreat", sum := "8c8162cfad27cbb3a41050bdd910bcf3c7fbe23458b09e4f958fb9c928504cec", func := "bonehouse/bonehouselaw04.TiesClashes", spec := "tiesClashes", unfollowed := true, recurses := true, apart := false, narrowed := true }
def TiesClashesUptoSaid : Prop := tiesClashesUptoRow.holds Tryz.pinned (OpenSpec.upto tiesClashesSpec)

/-- 'bonehouselaw04.TiesFollows', WHERE WHAT IT READS IS OF BULK AT MOST 1048576: true; the input reads as it did. -/
def tiesFollowsUptoRow : OpenClaim := { program := "ytjcafjffmiknmaagreat", sum := "8c8162cfad27cbb3a41050bdd910bcf3c7fbe23458b09e4f958fb9c928504cec", func := "bonehouse/bonehouselaw04.TiesFollows", spec := "tiesFollows", unfollowed := true, recurses := true, apart := false, narrowed := true }
def TiesFollowsUptoSaid : Prop := tiesFollowsUptoRow.holds Tryz.pinned (OpenSpec.upto tiesFollowsSpec)

/-- 'bonehouselaw04.TiesWitness', WHERE WHAT IT READS IS OF BULK AT MOST 1048576: true; the input reads as it did. -/
def tiesWitnessUptoRow : OpenClaim := { program := "ytjcafjffmiknmaagreat", sum := "8c8162cfad27cbb3a41050bdd910bcf3c7fbe23458b09e4f958fb9c928504cec", func := "bonehouse/bonehouselaw04.TiesWitness", spec := "tiesWitness", unfollowed := true, recurses := true, apart := false, narrowed := true }
def TiesWitnessUptoSaid : Prop := tiesWitnessUptoRow.holds Tryz.pinned (OpenSpec.upto tiesWitnessSpec)

end Rows
end Go.Proofs.YtjcafjffmiknmaaGreat

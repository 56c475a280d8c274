/-
  No cell of these rows narrows 'for every input' (looked for: loops, veiled, ifaces, maps, wideKeys, modest, calm, conditions, laid).
  DERIVED. THE GIVEN ROWS OF THIS SEAT. 6 by the template 'for every input the law returns true; each argument reads behind the call as it read before'; 0 by the template 'total and deterministic' (their statements: YtpmcnmlpkpoopaaTotals.lean).
  GIVEN WITH THE SEED: the statements are not yours to turn. If you find one false, say at which input.
  Laid BY PROGRAM, IN A SANDBOX (cutbox-rows.mjs): the forced cells as the released guide's own fill.sh prints them over the translation 3e2c61ea9e7dea65… (all of the seat's roots in one cut). By AI agents, Wed Nov 11 2026. No macro, syntax, notation, axiom, sorry.
-/
import Derived.Test.YtpmcnmlpkpoopaaChecked
import GoSem.Claim
import GoSem.ClaimJoined
import GoSem.ClaimMapViews
import Derived.JoinedTies
import Derived.KernelRfl
namespace Go.Proofs.Ytpmcnmlpkpoopaa
/- THE CELL 'sum', in the pinned program and in every row, IS THE sha256 OF THE DUMP (.gsa) THAT YtpmcnmlpkpoopaaProg.lean LOADS. Nothing in Lean hashes anything: it is a label: what it is worth is what the hold of that sum in a sandbox is worth. -/
noncomputable def Try.pinned : Pinned := { name := "ytpmcnmlpkpoopaa", sum := "3e2c61ea9e7dea650c99fb2700fce97f8f40f78e76292140d7dbe80e1c49777b", checked := Try.checked }
namespace Rows
def none {H : Type} : Left H := { results := [], args := [] }

/-- 'arboristlaw03.CharsetMade': WHATEVER THE INPUT: true; the input reads as it did. -/
def charsetMadeSpec : ChangeSpec := { name := "charsetMade", fn := fun _ => fun
  | [d] => { results := [.lit (.bool true)], args := [d] }
  | _ => none }
def charsetMadeRow : OpenClaim := { program := "ytpmcnmlpkpoopaa", sum := "3e2c61ea9e7dea650c99fb2700fce97f8f40f78e76292140d7dbe80e1c49777b", func := "arborist/arboristlaw03.CharsetMade", spec := "charsetMade", unfollowed := true, recurses := true, plainKeys := false, apart := false }
def CharsetMadeSaid : Prop := charsetMadeRow.holds Try.pinned (OpenSpec.ofChange charsetMadeSpec)

/-- ITS FALSE NEIGHBOUR: 'it returns false'. Refute it at one input. -/
def charsetMadeWrong : ChangeSpec := { name := "charsetMade", fn := fun _ => fun
  | [d] => { results := [.lit (.bool false)], args := [d] }
  | _ => none }
def CharsetMadeWrongFalsely : Prop := charsetMadeRow.holds Try.pinned (OpenSpec.ofChange charsetMadeWrong)

/-- 'arboristlaw03.CharsetTells': WHATEVER THE INPUT: true; the input reads as it did. -/
def charsetTellsSpec : ChangeSpec := { name := "charsetTells", fn := fun _ => fun
  | [d1, d2] => { results := [.lit (.bool true)], args := [d1, d2] }
  | _ => none }
def charsetTellsRow : OpenClaim := { program := "ytpmcnmlpkpoopaa", sum := "3e2c61ea9e7dea650c99fb2700fce97f8f40f78e76292140d7dbe80e1c49777b", func := "arborist/arboristlaw03.CharsetTells", spec := "charsetTells", unfollowed := true, recurses := true, plainKeys := false, apart := false }
def CharsetTellsSaid : Prop := charsetTellsRow.holds Try.pinned (OpenSpec.ofChange charsetTellsSpec)

/-- ITS FALSE NEIGHBOUR: 'it returns false'. Refute it at one input. -/
def charsetTellsWrong : ChangeSpec := { name := "charsetTells", fn := fun _ => fun
  | [d1, d2] => { results := [.lit (.bool false)], args := [d1, d2] }
  | _ => none }
def CharsetTellsWrongFalsely : Prop := charsetTellsRow.holds Try.pinned (OpenSpec.ofChange charsetTellsWrong)

/-- 'arboristlaw03.CharsetOps': WHATEVER THE INPUT: true; the input reads as it did. -/
def charsetOpsSpec : ChangeSpec := { name := "charsetOps", fn := fun _ => fun
  | [d1, d2] => { results := [.lit (.bool true)], args := [d1, d2] }
  | _ => none }
def charsetOpsRow : OpenClaim := { program := "ytpmcnmlpkpoopaa", sum := "3e2c61ea9e7dea650c99fb2700fce97f8f40f78e76292140d7dbe80e1c49777b", func := "arborist/arboristlaw03.CharsetOps", spec := "charsetOps", unfollowed := true, recurses := true, plainKeys := false, apart := false }
def CharsetOpsSaid : Prop := charsetOpsRow.holds Try.pinned (OpenSpec.ofChange charsetOpsSpec)

/-- ITS FALSE NEIGHBOUR: 'it returns false'. Refute it at one input. -/
def charsetOpsWrong : ChangeSpec := { name := "charsetOps", fn := fun _ => fun
  | [d1, d2] => { results := [.lit (.bool false)], args := [d1, d2] }
  | _ => none }
def CharsetOpsWrongFalsely : Prop := charsetOpsRow.holds Try.pinned (OpenSpec.ofChange charsetOpsWrong)

/-- 'arboristlaw03.CharsetParts': WHATEVER THE INPUT: true; the input reads as it did. -/
def charsetPartsSpec : ChangeSpec := { name := "charsetParts", fn := fun _ => fun
  | [d] => { results := [.lit (.bool true)], args := [d] }
  | _ => none }
def charsetPartsRow : OpenClaim := { program := "ytpmcnmlpkpoopaa", sum := "3e2c61ea9e7dea650c99fb2700fce97f8f40f78e76292140d7dbe80e1c49777b", func := "arborist/arboristlaw03.CharsetParts", spec := "charsetParts", unfollowed := true, recurses := true, plainKeys := false, apart := false }
def CharsetPartsSaid : Prop := charsetPartsRow.holds Try.pinned (OpenSpec.ofChange charsetPartsSpec)

/-- ITS FALSE NEIGHBOUR: 'it returns false'. Refute it at one input. -/
def charsetPartsWrong : ChangeSpec := { name := "charsetParts", fn := fun _ => fun
  | [d] => { results := [.lit (.bool false)], args := [d] }
  | _ => none }
def CharsetPartsWrongFalsely : Prop := charsetPartsRow.holds Try.pinned (OpenSpec.ofChange charsetPartsWrong)

/-- 'arboristlaw03.CharsetRunes': WHATEVER THE INPUT: true; the input reads as it did. -/
def charsetRunesSpec : ChangeSpec := { name := "charsetRunes", fn := fun _ => fun
  | [d1, d2, d3] => { results := [.lit (.bool true)], args := [d1, d2, d3] }
  | _ => none }
def charsetRunesRow : OpenClaim := { program := "ytpmcnmlpkpoopaa", sum := "3e2c61ea9e7dea650c99fb2700fce97f8f40f78e76292140d7dbe80e1c49777b", func := "arborist/arboristlaw03.CharsetRunes", spec := "charsetRunes", unfollowed := true, recurses := true, plainKeys := false, apart := false }
def CharsetRunesSaid : Prop := charsetRunesRow.holds Try.pinned (OpenSpec.ofChange charsetRunesSpec)

/-- ITS FALSE NEIGHBOUR: 'it returns false'. Refute it at one input. -/
def charsetRunesWrong : ChangeSpec := { name := "charsetRunes", fn := fun _ => fun
  | [d1, d2, d3] => { results := [.lit (.bool false)], args := [d1, d2, d3] }
  | _ => none }
def CharsetRunesWrongFalsely : Prop := charsetRunesRow.holds Try.pinned (OpenSpec.ofChange charsetRunesWrong)

/-- 'arboristlaw03.CharsetApart': WHATEVER THE INPUT: true; the input reads as it did. -/
def charsetApartSpec : ChangeSpec := { name := "charsetApart", fn := fun _ => fun
  | [d1, d2] => { results := [.lit (.bool true)], args := [d1, d2] }
  | _ => none }
def charsetApartRow : OpenClaim := { program := "ytpmcnmlpkpoopaa", sum := "3e2c61ea9e7dea650c99fb2700fce97f8f40f78e76292140d7dbe80e1c49777b", func := "arborist/arboristlaw03.CharsetApart", spec := "charsetApart", unfollowed := true, recurses := true, plainKeys := false, apart := false }
def CharsetApartSaid : Prop := charsetApartRow.holds Try.pinned (OpenSpec.ofChange charsetApartSpec)

/-- ITS FALSE NEIGHBOUR: 'it returns false'. Refute it at one input. -/
def charsetApartWrong : ChangeSpec := { name := "charsetApart", fn := fun _ => fun
  | [d1, d2] => { results := [.lit (.bool false)], args := [d1, d2] }
  | _ => none }
def CharsetApartWrongFalsely : Prop := charsetApartRow.holds Try.pinned (OpenSpec.ofChange charsetApartWrong)

/- THE SECOND FORM. 'bulk': how many values and letters a reading holds, each counted each time it is reached (what is shared counts as often as it is met; a slice's spare places count too). A statement '..UptoSaid' is the law's where the arguments, and the package variables that the reading takes, are together of bulk at most 1048576: NARROWER than '..Said'. Prove '..Said' where nothing that the law and all that it calls make is longer than what came in: it says more and counts as full. Else prove '..UptoSaid'. A law counts once. -/
mutual
def uptoBulk {H : Type} : DataW H → Nat
  | .lit (.string bytes) => bytes.length + 1
  | .lit _ => 1
  | .nil => 1
  | .ptr d => uptoBulk d + 1
  | .slice elems spare => uptoBulkAll elems + uptoBulkAll spare + 1
  | .agg parts => uptoBulkAll parts + 1
  | .iface _ d => uptoBulk d + 1
  | .map entries => uptoBulkEntries entries + 1
  | .held _ => 1
def uptoBulkAll {H : Type} : List (DataW H) → Nat
  | [] => 0
  | d :: r => uptoBulk d + uptoBulkAll r
def uptoBulkEntries {H : Type} : List (Lit × DataW H) → Nat
  | [] => 0
  | x :: r => uptoBulkEntry x + uptoBulkEntries r
def uptoBulkEntry {H : Type} : Lit × DataW H → Nat
  | (.string bytes, d) => bytes.length + uptoBulk d + 1
  | (_, d) => uptoBulk d + 1
 end
def uptoSmall : (H : Type) → List (DataW H) → Bool := fun _ ds => decide (uptoBulkAll ds ≤ 1048576)
def OpenSpec.upto (s : _root_.Go.ChangeSpec) : _root_.Go.OpenSpec := { _root_.Go.OpenSpec.ofChange s with cond := some uptoSmall }

/-- 'arboristlaw03.CharsetMade', WHERE WHAT IT READS IS OF BULK AT MOST 1048576: true; the input reads as it did. -/
def charsetMadeUptoRow : OpenClaim := { program := "ytpmcnmlpkpoopaa", sum := "3e2c61ea9e7dea650c99fb2700fce97f8f40f78e76292140d7dbe80e1c49777b", func := "arborist/arboristlaw03.CharsetMade", spec := "charsetMade", unfollowed := true, recurses := true, plainKeys := false, apart := false, narrowed := true }
def CharsetMadeUptoSaid : Prop := charsetMadeUptoRow.holds Try.pinned (OpenSpec.upto charsetMadeSpec)

/-- 'arboristlaw03.CharsetTells', WHERE WHAT IT READS IS OF BULK AT MOST 1048576: true; the input reads as it did. -/
def charsetTellsUptoRow : OpenClaim := { program := "ytpmcnmlpkpoopaa", sum := "3e2c61ea9e7dea650c99fb2700fce97f8f40f78e76292140d7dbe80e1c49777b", func := "arborist/arboristlaw03.CharsetTells", spec := "charsetTells", unfollowed := true, recurses := true, plainKeys := false, apart := false, narrowed := true }
def CharsetTellsUptoSaid : Prop := charsetTellsUptoRow.holds Try.pinned (OpenSpec.upto charsetTellsSpec)

/-- 'arboristlaw03.CharsetOps', WHERE WHAT IT READS IS OF BULK AT MOST 1048576: true; the input reads as it did. -/
def charsetOpsUptoRow : OpenClaim := { program := "ytpmcnmlpkpoopaa", sum := "3e2c61ea9e7dea650c99fb2700fce97f8f40f78e76292140d7dbe80e1c49777b", func := "arborist/arboristlaw03.CharsetOps", spec := "charsetOps", unfollowed := true, recurses := true, plainKeys := false, apart := false, narrowed := true }
def CharsetOpsUptoSaid : Prop := charsetOpsUptoRow.holds Try.pinned (OpenSpec.upto charsetOpsSpec)

/-- 'arboristlaw03.CharsetParts', WHERE WHAT IT READS IS OF BULK AT MOST 1048576: true; the input reads as it did. -/
def charsetPartsUptoRow : OpenClaim := { program := "ytpmcnmlpkpoopaa", sum := "3e2c61ea9e7dea650c99fb2700fce97f8f40f78e76292140d7dbe80e1c49777b", func := "arborist/arboristlaw03.CharsetParts", spec := "charsetParts", unfollowed := true, recurses := true, plainKeys := false, apart := false, narrowed := true }
def CharsetPartsUptoSaid : Prop := charsetPartsUptoRow.holds Try.pinned (OpenSpec.upto charsetPartsSpec)

/-- 'arboristlaw03.CharsetRunes', WHERE WHAT IT READS IS OF BULK AT MOST 1048576: true; the input reads as it did. -/
def charsetRunesUptoRow : OpenClaim := { program := "ytpmcnmlpkpoopaa", sum := "3e2c61ea9e7dea650c99fb2700fce97f8f40f78e76292140d7dbe80e1c49777b", func := "arborist/arboristlaw03.CharsetRunes", spec := "charsetRunes", unfollowed := true, recurses := true, plainKeys := false, apart := false, narrowed := true }
def CharsetRunesUptoSaid : Prop := charsetRunesUptoRow.holds Try.pinned (OpenSpec.upto charsetRunesSpec)

/-- 'arboristlaw03.CharsetApart', WHERE WHAT IT READS IS OF BULK AT MOST 1048576: true; the input reads as it did. -/
def charsetApartUptoRow : OpenClaim := { program := "ytpmcnmlpkpoopaa", sum := "3e2c61ea9e7dea650c99fb2700fce97f8f40f78e76292140d7dbe80e1c49777b", func := "arborist/arboristlaw03.CharsetApart", spec := "charsetApart", unfollowed := true, recurses := true, plainKeys := false, apart := false, narrowed := true }
def CharsetApartUptoSaid : Prop := charsetApartUptoRow.holds Try.pinned (OpenSpec.upto charsetApartSpec)

end Rows
end Go.Proofs.Ytpmcnmlpkpoopaa

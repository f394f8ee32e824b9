/-
  Imports alone: the tactics for a region whose reads come ahead of one writing call.
-/
import Derived.Test.YthpkobogphegjaaKit
import Derived.StillTailTactics
namespace Go.Proofs.Ythpkobogphegjaa
end Go.Proofs.Ythpkobogphegjaa

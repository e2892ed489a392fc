/- Who returns alone returns while others at most leave. No condition. -/
import Derived.Test.YtnnhkogmppheeaaBase
import Derived.Conc.Holds
import Derived.Leaving
import Derived.ClaimOpenTies
namespace Go.Proofs.Ytnnhkogmppheeaa

theorem leaving_of_handed {a : Assume} {C : Checked} {os : Os} {f : FuncId} {Pre : World → Array Value → Prop} {Post : World → Array Value → Value → World → Prop} (h : ReturnsInHanded a C os f .any Pre Post) : ReturnsInLeavingWide a C os f .any Pre Post :=
  fun enter => ReturnsInOpen.mono (fun _ _ _ x => ⟨x.2.1, onlyLeaving_of_quiet x.1, x.2.2⟩) (fun _ x => x) (h enter)
end Go.Proofs.Ytnnhkogmppheeaa

/- LeastCost of both sides, as the law wants them. No condition but the lists' lengths. -/
import Derived.Test.YtmdfcamieonabaaCostOk2
import Derived.Test.YtmdfcamieonabaaIntSS2
namespace Go.Proofs.Ytmdfcamieonabaa
open Go.RowKit

theorem ss_len {LL : List (List Int)} (h : SSok LL) : LL.length ≤ 1048576 ∧ ∀ j (hj : j < LL.length), LL[j].length ≤ 1048576 := ⟨h.1, fun _ hj => h.2.1 _ (List.getElem_mem hj)⟩
theorem implLeastCost_any (A0 : Option Addr) (c0 : Nat) (L0 : List (List Int)) (w : World) (l0 : SSok L0) (_ : ∀ L ∈ L0, WfL L) (_ : L0.length ≤ c0) (h0 : IntSS w A0 L0) :
    Calls Try.prog 27 #[.slice A0 L0.length c0] w fun e w' => e = .returned (.tuple #[.int .i64 (lcR L0), .bool (lcB L0)]) ∧ Below w.heap.size w w' := implLC_any A0 c0 L0 w (ss_len l0).1 (ss_len l0).2 h0
theorem specLeastCost_any (A0 : Option Addr) (c0 : Nat) (L0 : List (List Int)) (w : World) (l0 : SSok L0) (_ : ∀ L ∈ L0, WfL L) (_ : L0.length ≤ c0) (h0 : IntSS w A0 L0) :
    Calls Try.prog 25 #[.slice A0 L0.length c0] w fun e w' => e = .returned (.tuple #[.int .i64 (lcR L0), .bool (lcB L0)]) ∧ Below w.heap.size w w' := specLC_any A0 c0 L0 w (ss_len l0).1 (ss_len l0).2 h0
end Go.Proofs.Ytmdfcamieonabaa

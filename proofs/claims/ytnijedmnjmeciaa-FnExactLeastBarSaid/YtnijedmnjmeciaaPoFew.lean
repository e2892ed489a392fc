/- The model's fewest bars: 'spec.poBars', 'spec.poFewest'; FirstCut and FewestBars of the model. No condition but the lists' lengths. -/
import Derived.Test.YtnijedmnjmeciaaPoCut
import Derived.Test.YtnijedmnjmeciaaFits
namespace Go.Proofs.Ytnijedmnjmeciaa
open Go.RowKit

set_option maxRecDepth 20000 in
set_option maxHeartbeats 1000000 in
theorem poBars_any (n : Nat) (bar : Int) (w : World) (hn : n ≤ 8) :
    Calls Try.prog 12 #[.int .i64 n, .int .i64 bar] w fun e w' => ∃ v, e = .returned v ∧ OwnInts w' w.heap.size 3 v (List.replicate n bar) ∧ Below w.heap.size w w' := by
  obtain ⟨i0, hi, hz0, hz1, hz2⟩ := info_parts info_int
  have HR0 : Hid (∀ m, List.replicate (m + 1) bar = List.replicate m bar ++ [bar]) := Lib.hid fun m => List.replicate_succ'
  go_enter Try.func12, Try.ntmps12
  go_wp2
  go_loopw [0, 5] (fun i v wr => ∃ j : Nat, j ≤ n ∧ i = .int .i64 ((n - j : Nat) : Int) ∧ OwnInts wr w.heap.size 3 v (List.replicate j bar) ∧ Below w.heap.size w wr) (fun i _ _ => (intOf i).toNat)
  case atStart => exact ⟨0, Nat.zero_le _, rfl, OwnInts.nil _ _ _, Below.refl _ _⟩
  case round =>
    obtain ⟨j, hj, rfl, hown, hb⟩ := hrel
    have HO := Lib.hid hown
    have HB := Lib.hid hb
    clear hown hb
    by_cases hlt : j < n
    · obtain ⟨m, hm⟩ : ∃ m, m = n - (j + 1) := ⟨_, rfl⟩
      have HM := Lib.hid hm
      have hm8 : m ≤ 8 := by omega
      have e0 : ((n - j : Nat) : Int) = (m : Int) + 1 := by omega
      rw [e0]
      have hlen : (List.replicate j bar).length = j := List.length_replicate
      have hbs := HB.out.size
      clear hm e0
      go_wp2_with (at_builtin; refine wpList_append_own _ rfl (.tmp 10) (.tmp 12) _ rfl w.heap.size 3 i0 _ 1 8 Try.underlying22 hi hz0 hz1 hz2 rfl (by decide) _ (List.replicate j bar).length ((List.replicate j bar).map (Value.int .i64)) rfl (World.ownsRow.alloc HO.out _) ⟨_, 0, none⟩ 1 1 [.int .i64 (bar)] rfl rfl (World.news_of_block (cs := #[.int .i64 (bar)]) (t := 3) (fr := (0, 0)) (by first | exact heap_alloc_new _ _ | exact heap_new_set _ _ _ _ _)) (by simp [Value.oneCell']) (by unfold maxLen; omega) (by omega) (by simp; omega) ?_; intro v' w3 hown' hgrow _)
      have HR : Hid (OwnInts w3 w.heap.size 3 v' (List.replicate (j + 1) bar)) := Lib.hid (by rw [HR0.out]; exact OwnInts.snoc hown')
      have HB3 : Hid (Below w.heap.size w w3) := Lib.hid ((HB.out.alloc hbs _).grown hgrow (by simp; omega) fun k hk => (World.ownsRow.lt HO.out k hk).1)
      clear hown' hgrow
      go_wp2
      go_roundw
      case rel => exact ⟨j + 1, by omega, by (rw [← HM.out]; first | done | go_num), HR.out, HB3.out⟩
      case measure => (simp [intOf]; try omega)
    · obtain rfl : j = n := by omega
      rw [Nat.sub_self]
      go_wp2
      go_ret
      exact ⟨_, rfl, HO.out, HB.out⟩

/-- the first cut out of b bars or more, and how many -/
def fewM (L : List Int) (bar : Int) : Nat → Nat → List Int × Nat
  | 0, _ => (upFrom 0 L.length, L.length)
  | f + 1, b => match cutM L (List.replicate b bar) with
    | some c => (c, b)
    | none => fewM L bar f (b + 1)
def fewR (L : List Int) (bar : Int) : List Int × Nat := fewM L bar (L.length - 1) 1
theorem fewM_some {L : List Int} {bar : Int} {b : Nat} {c : List Int} (hb : b < L.length) (h : cutM L (List.replicate b bar) = some c) : fewM L bar (L.length - b) b = (c, b) := by
  obtain ⟨f, hf⟩ : ∃ f, L.length - b = f + 1 := ⟨L.length - b - 1, by omega⟩
  rw [hf]; unfold fewM; rw [h]
theorem fewM_none {L : List Int} {bar : Int} {b : Nat} (hb : b < L.length) (h : cutM L (List.replicate b bar) = none) : fewM L bar (L.length - b) b = fewM L bar (L.length - (b + 1)) (b + 1) := by
  obtain ⟨f, hf⟩ : ∃ f, L.length - b = f + 1 := ⟨L.length - b - 1, by omega⟩
  rw [hf, show L.length - (b + 1) = f by omega]
  show (match cutM L (List.replicate b bar) with | some c => (c, b) | none => fewM L bar f (b + 1)) = _
  rw [h]
theorem upFrom_snoc : ∀ (m n : Nat), upFrom n (m + 1) = upFrom n m ++ [((n + m : Nat) : Int)]
  | 0, n => rfl
  | m + 1, n => by
    show (n : Int) :: upFrom (n + 1) (m + 1) = (n : Int) :: upFrom (n + 1) m ++ _
    rw [upFrom_snoc m (n + 1), List.cons_append, show n + 1 + m = n + (m + 1) by omega]

end Go.Proofs.Ytnijedmnjmeciaa

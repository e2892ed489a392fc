/- What a board sees, in the program: 'impl.doSee'. No condition but the lists' lengths. -/
import Derived.Test.YtnnhkogmppheeaaWhere
import Derived.StillTailTactics
import Derived.Test.YtnnhkogmppheeaaSub
namespace Go.Proofs.Ytnnhkogmppheeaa
open Go.RowKit

/-- all boards behind lo and ahead of hi are lower than m -/
def betw (L : List Int) (lo hi : Nat) (m : Int) : Bool := (List.range hi).all fun i => decide (i ≤ lo ∨ L.getD i 0 < m)
theorem betw_succ (L : List Int) (lo hi : Nat) (m : Int) : betw L lo (hi + 1) m = (betw L lo hi m && decide (hi ≤ lo ∨ L.getD hi 0 < m)) := by
  unfold betw; rw [List.range_succ, List.all_append]; simp
theorem betw_start (L : List Int) (lo : Nat) (m : Int) : betw L lo (lo + 1) m = true := by
  unfold betw
  rw [List.all_eq_true]
  intro i hi
  have := List.mem_range.1 hi
  exact decide_eq_true (.inl (by omega))
theorem betw_iff (L : List Int) (lo hi : Nat) (m : Int) : betw L lo hi m = true ↔ ∀ i, lo < i → i < hi → L.getD i 0 < m := by
  unfold betw
  rw [List.all_eq_true]
  constructor
  · intro h i h1 h2
    rcases of_decide_eq_true (h i (List.mem_range.2 h2)) with h3 | h3
    · omega
    · exact h3
  · intro h i hi
    by_cases h1 : i ≤ lo
    · exact decide_eq_true (.inl h1)
    · exact decide_eq_true (.inr (h i (by omega) (List.mem_range.1 hi)))
/-- a part of which some number is m at least -/
def anyGe (m : Int) (M : List Int) : Bool := M.any fun x => decide (m ≤ x)
theorem betw_any {L : List Int} {l r : Nat} {m : Int} (hr : r ≤ L.length) : betw L l r m = !anyGe m ((L.drop (l + 1)).take (r - (l + 1))) := by
  rw [Bool.eq_iff_iff, betw_iff, Bool.not_eq_true', ← Bool.not_eq_true, anyGe, List.any_eq_true]
  constructor
  · rintro h ⟨x, hx, hx2⟩
    have hx2 := of_decide_eq_true hx2
    obtain ⟨k, hk, rfl⟩ := List.mem_iff_getElem.1 hx
    rw [List.length_take, List.length_drop] at hk
    rw [List.getElem_take, List.getElem_drop] at hx2
    have := h (l + 1 + k) (by omega) (by omega)
    rw [getD_lt L _ (by omega)] at this
    omega
  · intro h i h1 h2
    rcases Int.lt_or_le (L.getD i 0) m with h3 | h3
    · exact h3
    · refine absurd ⟨L.getD i 0, ?_, decide_eq_true h3⟩ h
      rw [getD_lt L i (by omega)]
      refine List.mem_iff_getElem.2 ⟨i - (l + 1), by rw [List.length_take, List.length_drop]; omega, ?_⟩
      rw [List.getElem_take, List.getElem_drop]
      congr 1
      omega
/-- whether board k is seen from board b -/
def seeB (L : List Int) (b k : Nat) : Bool := decide (k ≠ b) && betw L (min k b) (max k b) (min (L.getD k 0) (L.getD b 0))

set_option maxHeartbeats 400000 in
theorem seeFn_any (g2 : Nat) (x m : Int) (w : World) (k2 : w.cell? ⟨g2, 0, none⟩ = some (.int .i64 m)) :
    Calls Try.prog 117 #[.int .i64 x, .pointer (some ⟨g2, 0, none⟩)] w fun e w' => e = .returned (.bool (decide (m ≤ x))) ∧ w = w' := by
  go_enter Try.func117, Try.ntmps117
  go_wp2
  go_ret
  exact ⟨rfl, rfl⟩

set_option maxRecDepth 20000 in
set_option maxHeartbeats 2000000 in
theorem indexFn_any (g2 : Nat) (A : Option Addr) (c : Nat) (M : List Int) (m : Int) (w : World) (hm : M.length ≤ 1048576) (h : IntSl w A M) (k2 : w.cell? ⟨g2, 0, none⟩ = some (.int .i64 m)) :
    Calls Try.prog 120 #[.slice A M.length c, .func (.func 117) #[] #[.pointer (some ⟨g2, 0, none⟩)]] w fun e w' => (∃ x : Int, e = .returned (.int .i64 x) ∧ decide (0 ≤ x) = anyGe m M) ∧ w = w' := by
  have HF := Lib.hid fun x => seeFn_any g2 x m w k2
  have HSL := Lib.hid h
  have HN : Hid (∀ k (hk : k < M.length), anyGe m (M.take (k + 1)) = (anyGe m (M.take k) || decide (m ≤ M[k]))) := Lib.hid fun k hk => by
    unfold anyGe; rw [List.take_succ_eq_append_getElem hk, List.any_append]; simp
  have HY : Hid (∀ k (hk : k < M.length), m ≤ M[k] → anyGe m M = true) := Lib.hid fun k hk hle => by
    unfold anyGe; rw [List.any_eq_true]; exact ⟨_, List.getElem_mem hk, decide_eq_true hle⟩
  clear h
  go_enter Try.func120, Try.ntmps120
  go_wp2
  go_loop [8] (fun i => ∃ k : Nat, k ≤ M.length ∧ i = .int .i64 k ∧ Hid (anyGe m (M.take k) = false)) (fun i => M.length - (intOf i).toNat)
  case atStart => exact ⟨0, Nat.zero_le _, rfl, Lib.hid (by simp [anyGe])⟩
  case round =>
    obtain ⟨k, hk, rfl, hI⟩ := hrel
    by_cases hlt : k < M.length
    · obtain ⟨g, off, rfl, hg, hat⟩ := HSL.out.some (by omega)
      have c1 := hat k hlt
      have HNk := Lib.hid (HN.out k hlt)
      have HYk := Lib.hid (HY.out k hlt)
      obtain ⟨x, hx⟩ : ∃ x : Int, x = M[k]'hlt := ⟨_, rfl⟩
      rw [← hx] at c1 HNk HYk
      have HC := Lib.hid (HF.out x)
      clear hx hat
      by_cases hle : m ≤ x
      · rw [decide_eq_true hle] at HC
        have HR := Lib.hid (HYk.out hle)
        clear hle
        go_wp2_with fail
        refine HC.out.mono ?_
        rintro e w1 ⟨rfl, rfl⟩
        go_wp2
        go_ret
        exact ⟨⟨_, rfl, by rw [HR.out]; exact decide_eq_true (by omega)⟩, rfl⟩
      · rw [decide_eq_false hle] at HC
        have HR : Hid (anyGe m (M.take (k + 1)) = false) := Lib.hid (by rw [HNk.out, hI.out, decide_eq_false hle]; rfl)
        clear hle
        go_wp2_with fail
        refine HC.out.mono ?_
        rintro e w1 ⟨rfl, rfl⟩
        go_wp2
        go_round
        case rel => exact ⟨k + 1, by omega, by go_num, HR.out⟩
        case measure => simp [intOf]; omega
    · obtain rfl : k = M.length := by omega
      have HR : Hid (anyGe m M = false) := Lib.hid (by have := hI.out; rwa [List.take_length] at this)
      go_wp2
      go_ret
      exact ⟨⟨_, rfl, by rw [HR.out]; exact decide_eq_false (by omega)⟩, rfl⟩
theorem containsFn_any (g2 : Nat) (A : Option Addr) (c : Nat) (M : List Int) (m : Int) (w : World) (hm : M.length ≤ 1048576) (h : IntSl w A M) (k2 : w.cell? ⟨g2, 0, none⟩ = some (.int .i64 m)) :
    Calls Try.prog 116 #[.slice A M.length c, .func (.func 117) #[] #[.pointer (some ⟨g2, 0, none⟩)]] w fun e w' => e = .returned (.bool (anyGe m M)) ∧ w = w' := by
  have HI := Lib.hid (indexFn_any g2 A c M m w hm h k2)
  clear h k2
  go_enter Try.func116, Try.ntmps116
  go_wp2_with fail
  refine HI.out.mono ?_
  rintro e w1 ⟨⟨x, rfl, hx⟩, rfl⟩
  have HX := Lib.hid hx
  clear hx HI
  go_wp2
  go_ret
  exact ⟨ret_bool HX.out, rfl⟩

set_option maxRecDepth 20000 in
set_option maxHeartbeats 2000000 in
theorem doSee_any (A : Option Addr) (c : Nat) (L : List Int) (l r : Nat) (w : World) (hlr : l < r) (hr : r < L.length) (hm : L.length ≤ 20) (hc : L.length ≤ c) (h : IntSl w A L) :
    Calls Try.prog 102 #[.slice A L.length c, .int .i64 l, .int .i64 r] w fun e w' => e = .returned (.bool (betw L l r (min (L.getD l 0) (L.getD r 0)))) ∧ Below w.heap.size w w' := by
  have HCU := Lib.hid (h.cut (l + 1) (r - (l + 1)) c hc)
  obtain ⟨g, off, rfl, hg, hat⟩ := h.some (by omega)
  have cl := hat l (by omega)
  have cr := hat r hr
  obtain ⟨x, hx⟩ : ∃ x : Int, x = L[l]'(by omega) := ⟨_, rfl⟩
  obtain ⟨y, hy⟩ : ∃ y : Int, y = L[r]'hr := ⟨_, rfl⟩
  rw [← hx] at cl
  rw [← hy] at cr
  have HE : Hid (min (L.getD l 0) (L.getD r 0) = min x y) := Lib.hid (by rw [getD_lt L l (by omega), getD_lt L r hr, hx, hy])
  rw [HE.out]
  have HB := Lib.hid (betw_any (L := L) (l := l) (r := r) (m := min x y) (by omega))
  obtain ⟨M, hM⟩ : ∃ M, M = (L.drop (l + 1)).take (r - (l + 1)) := ⟨_, rfl⟩
  have hMl : M.length = r - (l + 1) := by rw [hM, List.length_take, List.length_drop]; omega
  rw [← hM] at HB HCU
  obtain ⟨A2, hA2⟩ : ∃ A2, A2 = subA (some ⟨g, off, none⟩) (l + 1) c := ⟨_, rfl⟩
  obtain ⟨c2, hc2⟩ : ∃ c2, c2 = c - (l + 1) := ⟨_, rfl⟩
  have hs : ∀ W, (Instr.slice 22 (.slice (some ⟨g, off, none⟩) L.length c) (some (.int .i64 ((l : Int) + 1))) (some (.int .i64 (r : Int))) none).run Try.prog W = .ok (.slice A2 M.length c2) W := fun W => by
    rw [hMl, hA2, hc2]
    have := cut_lh (some ⟨g, off, none⟩) L.length c (l + 1) r (by omega) (by omega) W
    rw [Int.natCast_add] at this
    exact this
  rw [← hA2] at HCU
  have HBW := Lib.hid (below_new w (.cells #[.int .i64 (min x y)] 3)).drew
  have HCF := Lib.hid (containsFn_any w.heap.size A2 c2 M (min x y) (w.alloc (.cells #[.int .i64 (min x y)] 3)).drew (by omega) (HCU.out.below HBW.out) (by
    show (w.alloc (.cells #[.int .i64 (min x y)] 3)).cell? _ = _
    rw [cell_of_row _ w.heap.size 0 _ _ (0, 0) (heap_alloc_new w _)]; rfl))
  clear hA2 hc2 HCU hMl
  have hgb : Hid (g < w.heap.size) := Lib.hid hg
  have il0 : (0 : Int) ≤ (l : Int) := by omega
  have il1 : (l : Int) < (L.length : Int) := by omega
  have ir0 : (0 : Int) ≤ (r : Int) := by omega
  have ir1 : (r : Int) < (L.length : Int) := by omega
  clear hx hy hM hat hg
  go_enter Try.func102, Try.ntmps102
  go_wp2
  go_region_held3 (fun z => z.cell? ⟨g, off + l, none⟩ = some (.int .i64 x) ∧ z.cell? ⟨g, off + r, none⟩ = some (.int .i64 y)) (first | go_keep) (fail)
  all_goals (
    go_wp2_with fail
    refine HCF.out.mono ?_
    rintro e w1 ⟨rfl, rfl⟩
    go_wp2
    go_ret
    exact ⟨ret_bool HB.out.symm, HBW.out⟩)
end Go.Proofs.Ytnnhkogmppheeaa

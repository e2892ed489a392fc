/- The law's own helpers on lists of lists: 'laws.eqIntSS', 'markIntSS', 'heldIntSS'. No condition but the lists' lengths. -/
import Derived.Test.YtmdfcamieonabaaSS
namespace Go.Proofs.Ytmdfcamieonabaa
open Go.RowKit

def szL : List (List Int) → Nat
  | [] => 0
  | L :: R => L.length + szL R
theorem szL_append : ∀ (P R : List (List Int)), szL (P ++ R) = szL P + szL R
  | [], R => by rw [List.nil_append]; show _ = 0 + _; omega
  | L :: P, R => by rw [List.cons_append]; show L.length + szL (P ++ R) = L.length + szL P + szL R; rw [szL_append P R]; omega
def marksZ : Nat → List (List Int) → List (List Value)
  | _, [] => []
  | k, L :: R => marksI k L.length :: marksZ (k + L.length) R
theorem marksZ_snoc : ∀ (k : Nat) (P : List (List Int)) (L : List Int), marksZ k (P ++ [L]) = marksZ k P ++ [marksI (k + szL P) L.length]
  | k, [], L => rfl
  | k, M :: P, L => by
    rw [List.cons_append]
    show marksI k M.length :: marksZ (k + M.length) (P ++ [L]) = marksI k M.length :: (marksZ (k + M.length) P ++ [marksI (k + (M.length + szL P)) L.length])
    rw [marksZ_snoc (k + M.length) P L, Nat.add_assoc]
theorem marksZ_len : ∀ (k : Nat) (P : List (List Int)), (marksZ k P).length = P.length
  | _, [] => rfl
  | k, L :: P => by show (marksZ _ P).length + 1 = P.length + 1; rw [marksZ_len]
theorem marksZ_at (k : Nat) (P : List (List Int)) (L : List Int) (R : List (List Int)) : (marksZ k (P ++ L :: R))[P.length]? = some (marksI (k + szL P) L.length) := by
  induction P generalizing k with
  | nil => rfl
  | cons M P ih =>
    rw [List.cons_append]
    show (marksI k M.length :: marksZ (k + M.length) (P ++ L :: R))[P.length + 1]? = _
    rw [List.getElem?_cons_succ, ih, Nat.add_assoc]; rfl
theorem marksI_len (k n : Nat) : (marksI k n).length = n := by unfold marksI; simp
theorem intsV_len (L : List Int) : (intsV L).length = L.length := by unfold intsV; simp

/-- what the law's walk wants of a list of lists -/
def SSok (LL : List (List Int)) : Prop := LL.length ≤ 1048576 ∧ (∀ L ∈ LL, L.length ≤ 1048576) ∧ szL LL ≤ 4194304
set_option maxHeartbeats 400000 in
theorem eqInts_drew (A1 A2 : Option Addr) (c1 c2 : Nat) (zs : List Int) (w : World) (hm : zs.length ≤ 1048576) (h1 : IntSl w A1 zs) (h2 : IntSl w A2 zs) :
    Calls Try.prog 59 #[.slice A1 zs.length c1, .slice A2 zs.length c2] w fun e w' => e = .returned (.bool true) ∧ ∃ d, w' = w.drewN d := by
  rcases Nat.eq_zero_or_pos zs.length with h0 | h0
  · rw [h0]
    clear h1 h2 h0 hm
    go_enter Try.func59, Try.ntmps59
    go_wp2
    refine wp_loop_rounds 1 ?_
    rw [rounds_succ]
    go_wp2
    go_ret
    exact ⟨rfl, 0, rfl⟩
  · obtain ⟨g1, o1, rfl, hg1, at1⟩ := h1.some h0
    obtain ⟨g2, o2, rfl, hg2, at2⟩ := h2.some h0
    have H1 : Hid (∀ k (hk : k < zs.length), w.cell? ⟨g1, o1 + k, none⟩ = some (.int .i64 zs[k])) := Lib.hid at1
    have H2 : Hid (∀ k (hk : k < zs.length), w.cell? ⟨g2, o2 + k, none⟩ = some (.int .i64 zs[k])) := Lib.hid at2
    clear h1 h2 at1 at2
    go_enter Try.func59, Try.ntmps59
    go_wp2
    go_loopw [5] (fun i wr => ∃ k d : Nat, k ≤ zs.length ∧ i = .int .i64 k ∧ wr = w.drewN d) (fun i _ => zs.length - (intOf i).toNat)
    case atStart => exact ⟨0, 0, Nat.zero_le _, rfl, rfl⟩
    case round =>
      obtain ⟨k, d, hk, rfl, rfl⟩ := hrel
      by_cases hlt : k < zs.length
      · have e1 := H1.out k hlt
        have e2 := H2.out k hlt
        have hk0 : (0 : Int) ≤ (k : Int) := by omega
        have hk1 : (k : Int) < (zs.length : Int) := by omega
        go_wp2
        go_quiet (fail)
        go_wp2
        go_roundw
        case rel => exact ⟨k + 1, _, by omega, by go_num, rfl⟩
        case measure => simp [intOf]; omega
      · go_wp2
        go_ret
        exact ⟨rfl, _, rfl⟩

theorem drewN_belowR (w : World) (B d : Nat) : Below B w (w.drewN d) := below_drewN (Below.refl _ _) d
set_option maxHeartbeats 1000000 in
theorem eqSS_any (b1 t1 b2 t2 : Nat) (V1 V2 : Value) (LL : List (List Int)) (w : World) (hn : LL.length ≤ 1048576) (hl : ∀ L ∈ LL, L.length ≤ 1048576) (h1 : OwnSS w b1 t1 V1 LL) (h2 : OwnSS w b2 t2 V2 LL) :
    Calls Try.prog 28 #[V1, V2] w fun e w' => e = .returned (.bool true) ∧ Below w.heap.size w w' := by
  obtain ⟨vs1, r1⟩ := h1
  obtain ⟨vs2, r2⟩ := h2
  have l1 : vs1.length = LL.length := by rw [r1.len, List.length_map]
  have l2 : vs2.length = LL.length := by rw [r2.len, List.length_map]
  have O1 := r1.out
  have O2 := r2.out
  rw [l1] at O1
  rw [l2] at O2
  rcases Nat.eq_zero_or_pos LL.length with h0 | h0
  · obtain ⟨A1, c1, rfl⟩ := own_any O1
    obtain ⟨A2, c2, rfl⟩ := own_any O2
    rw [h0]
    clear r1 r2 O1 O2 l1 l2 h0 hn hl
    go_enter Try.func28, Try.ntmps28
    go_wp2
    refine wp_loop_rounds 1 ?_
    rw [rounds_succ]
    go_wp2
    go_ret
    exact ⟨rfl, Below.refl _ _⟩
  · obtain ⟨g1, c1, rfl, -, hg1⟩ := own_some O1 h0
    obtain ⟨g2, c2, rfl, -, hg2⟩ := own_some O2 h0
    have HK : Hid (∀ k (hk : k < LL.length), ∃ A1 d1 A2 d2, w.cell? ⟨g1, k, none⟩ = some (.slice A1 LL[k].length d1) ∧ w.cell? ⟨g2, k, none⟩ = some (.slice A2 LL[k].length d2) ∧
        ∀ W, Below w.heap.size w W → Calls Try.prog 59 #[.slice A1 LL[k].length d1, .slice A2 LL[k].length d2] W fun e w' => e = .returned (.bool true) ∧ ∃ d, w' = W.drewN d) := Lib.hid fun k hk => by
      have hz : (LL.map intsV)[k]? = some (intsV LL[k]) := by rw [List.getElem?_map, List.getElem?_eq_getElem hk]; rfl
      obtain ⟨A1, d1, e1, o1⟩ := OwnSS.at r1 hz
      obtain ⟨A2, d2, e2, o2⟩ := OwnSS.at r2 hz
      rw [intsV_len] at e1 e2 o1 o2
      refine ⟨A1, d1, A2, d2, by rw [World.ownsRow.cellAt O1 k (by omega), e1], by rw [World.ownsRow.cellAt O2 k (by omega), e2], fun W hW => ?_⟩
      exact eqInts_drew A1 A2 d1 d2 LL[k] W (hl _ (List.getElem_mem hk)) ((IntSl.of_own o1).below hW) ((IntSl.of_own o2).below hW)
    clear r1 r2 O1 O2 l1 l2 hl
    go_enter Try.func28, Try.ntmps28
    go_wp2
    go_loopw [5] (fun i wr => ∃ k d : Nat, k ≤ LL.length ∧ i = .int .i64 k ∧ wr = w.drewN d) (fun i _ => LL.length - (intOf i).toNat)
    case atStart => exact ⟨0, 0, Nat.zero_le _, rfl, rfl⟩
    case round =>
      obtain ⟨k, d, hk, rfl, rfl⟩ := hrel
      by_cases hlt : k < LL.length
      · obtain ⟨A1, d1, A2, d2, e1, e2, hc⟩ := HK.out k hlt
        have HC : Hid (∀ m, Calls Try.prog 59 #[.slice A1 LL[k].length d1, .slice A2 LL[k].length d2] (w.drewN (d + m)) fun e w' => e = .returned (.bool true) ∧ ∃ q, w' = w.drewN (d + q)) := Lib.hid fun m =>
          (hc _ (drewN_belowR w _ _)).mono fun _ _ h => ⟨h.1, h.2.elim fun q hq => ⟨m + q, by rw [hq, World.drewN_drewN, Nat.add_assoc]⟩⟩
        clear hc
        have hk0 : (0 : Int) ≤ (k : Int) := by omega
        have hk1 : (k : Int) < (LL.length : Int) := by omega
        go_wp2
        go_quiet (first | (go_at_call 59; exact HC.out _))
        go_wp2
        go_roundw
        case rel => exact ⟨k + 1, _, by omega, by go_num, rfl⟩
        case measure => simp [intOf]; omega
      · go_wp2
        go_ret
        exact ⟨rfl, below_drewN (Below.refl _ _) _⟩

end Go.Proofs.Ytmdfcamieonabaa

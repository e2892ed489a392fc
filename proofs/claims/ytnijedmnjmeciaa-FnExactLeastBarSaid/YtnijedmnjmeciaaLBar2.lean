/- LeastBar: the program. No condition but the list's length. -/
import Derived.Test.YtnijedmnjmeciaaLBar
import Derived.Test.YtnijedmnjmeciaaFirstCutP
import Derived.Test.YtnijedmnjmeciaaSum0
namespace Go.Proofs.Ytnijedmnjmeciaa
open Go.RowKit

theorem rowL_all (t : Int) (b : Nat) : rowL (fun _ => t) b = List.replicate b t := by
  unfold rowL
  rw [List.map_const', List.length_range]

set_option maxRecDepth 20000 in
set_option maxHeartbeats 2000000 in
theorem lbFn_any (b1 b2 : Nat) (A0 : Option Addr) (c0 : Nat) (L : List Int) (q t : Nat) (w : World) (hl8 : L.length ≤ 8) (hc : L.length ≤ c0) (hL : ∀ x ∈ L, 1 ≤ x ∧ x ≤ 500) (q1 : 1 ≤ q) (q8 : q ≤ 8) (ht : t ≤ 4000) (hb1 : b1 < w.heap.size) (hb2 : b2 < w.heap.size)
    (k1 : w.cell? ⟨b1, 0, none⟩ = some (.slice A0 L.length c0)) (k2 : w.cell? ⟨b2, 0, none⟩ = some (.int .i64 q)) (h0 : IntSl w A0 L) :
    Calls Try.prog 16 #[.int .i64 t, .pointer (some ⟨b1, 0, none⟩), .pointer (some ⟨b2, 0, none⟩)] w fun e w' => e = .returned (.bool (lbP L q t)) ∧ Below w.heap.size w w' := by
  have HWB := Lib.hid fun W => wholeBars_any (t : Int) W
  have HFC := Lib.hid fun W hW => firstCut_any q q1 q8 L (fun _ => (t : Int)) A0 c0 W hl8 hc hL (fun i _ => by omega) hW
  rw [rowL_all] at HFC
  have hd1 : ∀ W', Below w.heap.size w W' → W'.cell? ⟨b1, 0, none⟩ = some (.slice A0 L.length c0) := fun W' hW' => (hW'.cell (p := ⟨b1, 0, none⟩) hb1).trans k1
  have hd2 : ∀ W', Below w.heap.size w W' → W'.cell? ⟨b2, 0, none⟩ = some (.int .i64 q) := fun W' hW' => (hW'.cell (p := ⟨b2, 0, none⟩) hb2).trans k2
  have HD1 := Lib.hid hd1
  have HD2 := Lib.hid hd2
  have HS0 := Lib.hid h0
  unfold lbP
  obtain ⟨O, hO⟩ : ∃ O, O = cutM L (List.replicate q (t : Int)) := ⟨_, rfl⟩
  rw [← hO] at HFC ⊢
  obtain ⟨r, hr⟩ : ∃ r, r = O.isSome := ⟨_, rfl⟩
  rw [← hr] at HFC ⊢
  clear hd1 hd2 h0 hO hr
  go_enter Try.func16, Try.ntmps16
  go_wp2
  go_region_held3 (fun x => x.cell? ⟨b1, 0, none⟩ = some (.slice A0 L.length c0) ∧ x.cell? ⟨b2, 0, none⟩ = some (.int .i64 q))
    (first | go_keep | exact ⟨HD1.out _ HB1.out, HD2.out _ HB1.out⟩ | exact ⟨HD1.out _ HB2.out, HD2.out _ HB2.out⟩)
    (first
      | (go_at_call 17; refine (HWB.out _).mono ?_; rintro e w1 ⟨rfl, hb⟩; have HB1 := Lib.hid (below_next (Below.refl _ _).drew hb); clear hb)
      | (go_at_call 18; refine (HFC.out _ (HS0.out.below HB1.out)).mono ?_; rintro e w2 ⟨v2, rfl, hown, hb⟩; have HB2 := Lib.hid (below_next HB1.out hb); clear hb))
  go_wp2
  go_ret
  exact ⟨rfl, HB2.out⟩

set_option maxRecDepth 20000 in
set_option maxHeartbeats 2000000 in
theorem search2_any (g b1 b2 n : Nat) (p : Nat → Bool) (w : World) (hg : g = 16) (hn : n ≤ 30000)
    (hf : ∀ (i : Nat) (W : World), i < n → Below w.heap.size w W → Calls Try.prog g #[.int .i64 i, .pointer (some ⟨b1, 0, none⟩), .pointer (some ⟨b2, 0, none⟩)] W fun e w' => e = .returned (.bool (p i)) ∧ Below W.heap.size W w')
    (hm : ∀ a b, a ≤ b → p a = true → p b = true) :
    Calls Try.prog 14 #[.int .i64 n, .func (.func g) #[] #[.pointer (some ⟨b1, 0, none⟩), .pointer (some ⟨b2, 0, none⟩)]] w fun e w' => ∃ m : Nat, e = .returned (.int .i64 m) ∧ ((∀ t, t < m → p t = false) ∧ (∀ t, m ≤ t → t < n → p t = true) ∧ m ≤ n) ∧ Below w.heap.size w w' := by
  subst hg
  have HF := Lib.hid hf
  have HM := Lib.hid hm
  clear hf hm
  go_enter Try.func14, Try.ntmps14
  go_wp2
  go_loopw [5, 6, 7] (fun u v _ wr => ∃ lo hi : Nat, u = .int .i64 lo ∧ v = .int .i64 hi ∧ lo ≤ hi ∧ hi ≤ n ∧ Hid ((∀ t, t < lo → p t = false) ∧ ∀ t, hi ≤ t → t < n → p t = true) ∧ Below w.heap.size w wr) (fun u v _ _ => (intOf v).toNat - (intOf u).toNat)
  case atStart => exact ⟨0, n, rfl, rfl, Nat.zero_le _, Nat.le_refl _, Lib.hid ⟨fun t ht => absurd ht (Nat.not_lt_zero _), fun t h1 h2 => by omega⟩, Below.refl _ _⟩
  case round =>
    obtain ⟨lo, hi, rfl, rfl, hlh, hin, hI, hb⟩ := hrel
    have HB := Lib.hid hb
    by_cases hlt : lo < hi
    · have HC := Lib.hid (HF.out ((lo + hi) / 2) wr (by omega) hb)
      rw [show (((lo + hi) / 2 : Nat) : Int) = ((lo : Int) + (hi : Int)) / 2 by omega] at HC
      clear hb
      cases hp : p ((lo + hi) / 2)
      · rw [hp] at HC
        have HP := Lib.hid hp
        clear hp
        go_wp2_with fail
        refine HC.out.mono ?_
        rintro e w1 ⟨rfl, hb1⟩
        go_wp2
        go_roundw
        case rel => exact ⟨(lo + hi) / 2 + 1, hi, by go_num, rfl, by omega, hin, Lib.hid ⟨fun t ht => (by
            cases h : p t with
            | false => rfl
            | true => have := HM.out t ((lo + hi) / 2) (by omega) h; rw [HP.out] at this; cases this), hI.out.2⟩, below_next HB.out hb1⟩
        case measure => simp [intOf]; omega
      · rw [hp] at HC
        have HP := Lib.hid hp
        clear hp
        go_wp2_with fail
        refine HC.out.mono ?_
        rintro e w1 ⟨rfl, hb1⟩
        go_wp2
        go_roundw
        case rel => exact ⟨lo, (lo + hi) / 2, rfl, by go_num, by omega, by omega, Lib.hid ⟨hI.out.1, fun t ht _ => HM.out ((lo + hi) / 2) t ht HP.out⟩, below_next HB.out hb1⟩
        case measure => simp [intOf]; omega
    · obtain rfl : hi = lo := by omega
      have HI := Lib.hid (And.intro hI.out.1 (And.intro hI.out.2 hin))
      go_wp2
      go_ret
      exact ⟨hi, rfl, HI.out, hb⟩

set_option maxRecDepth 20000 in
set_option maxHeartbeats 4000000 in
theorem implLeastBar_any (A0 : Option Addr) (c0 : Nat) (L0 : List Int) (a1 : Int) (w : World) (l0 : L0.length ≤ 1048576) (_ : WfL L0) (hc : L0.length ≤ c0) (h0 : IntSl w A0 L0) (_ : (Lit.int .i64 a1).wf = true) :
    Calls Try.prog 6 #[.slice A0 L0.length c0, .int .i64 a1] w fun e w' => e = .returned (.tuple #[.int .i64 (lbR L0 a1), .bool (okLB L0 a1)]) ∧ Below w.heap.size w w' := by
  obtain ⟨W1, hW1⟩ : ∃ W1, W1 = w.alloc (.cells #[.slice A0 L0.length c0] 22) := ⟨_, rfl⟩
  obtain ⟨W2, hW2⟩ : ∃ W2, W2 = W1.alloc (.cells #[.int .i64 a1] 3) := ⟨_, rfl⟩
  have hs1 : W1.heap.size = w.heap.size + 1 := by rw [hW1]; simp
  have hs2 : W2.heap.size = w.heap.size + 2 := by rw [hW2]; simp [hs1]
  have hB1 : Below w.heap.size w W1 := by rw [hW1]; exact below_new w _
  have hB2 : Below w.heap.size w W2 := by rw [hW2]; exact hB1.alloc (by omega) _
  have k1 : W2.cell? ⟨w.heap.size, 0, none⟩ = some (.slice A0 L0.length c0) := by
    have e : W1.cell? ⟨w.heap.size, 0, none⟩ = some (.slice A0 L0.length c0) := by rw [hW1, cell_of_row _ w.heap.size 0 _ _ (0, 0) (heap_alloc_new w _)]; rfl
    rw [← e, hW2]
    exact (below_new W1 _).cell (p := ⟨w.heap.size, 0, none⟩) (by show w.heap.size < _; omega)
  have k2 : W2.cell? ⟨w.heap.size + 1, 0, none⟩ = some (.int .i64 a1) := by
    rw [← hs1, hW2, cell_of_row _ W1.heap.size 0 _ _ (0, 0) (heap_alloc_new W1 _)]; rfl
  have HA := Lib.hid (implRails_any A0 c0 L0 W2 l0 (h0.below hB2))
  have HB2 := Lib.hid hB2
  cases hra : okRa L0
  · have hok : okLB L0 a1 = false := by unfold okLB; rw [hra]; rfl
    rw [lbR_no hok, hok]
    rw [hra] at HA
    rw [hW2, hW1] at HA HB2
    clear hW1 hW2 hs1 hs2 hB1 hB2 k1 k2 h0 hok hra
    go_enter Try.func6, Try.ntmps6
    go_wp2_with (go_at_call 13; refine HA.out.mono ?_; rintro e w' ⟨rfl, rfl⟩)
    go_ret2
    exact ⟨rfl, HB2.out⟩
  · rw [hra] at HA
    by_cases hq : 1 ≤ a1 ∧ a1 ≤ 8
    · have hok : okLB L0 a1 = true := by unfold okLB; rw [hra, decide_eq_true hq]; rfl
      rw [show lbR L0 a1 = ((lbN L0 a1.toNat : Nat) : Int) by unfold lbR; rw [hok]; rfl, hok]
      obtain ⟨q1, q8⟩ := hq
      obtain ⟨q, rfl⟩ : ∃ q : Nat, a1 = q := ⟨a1.toNat, by omega⟩
      rw [Int.toNat_natCast]
      have hlen := okRa_len hra
      have hmem := okRa_mem hra
      have hsum := sum_le500 hmem
      obtain ⟨sm, hsm⟩ : ∃ sm : Nat, (sm : Int) = L0.sum := ⟨L0.sum.toNat, by omega⟩
      have hPS := lbP_sum (q := q) (by omega) hmem hsm
      have HSU := Lib.hid (sumOf_any A0 c0 L0 500 W2 l0 (by omega) (by omega) (fun x hx => by have := hmem x hx; omega) (h0.below hB2))
      rw [← hsm] at HSU
      have HS := Lib.hid (search2_any 16 w.heap.size (w.heap.size + 1) sm (lbP L0 q) W2 rfl (by omega) (fun i W' hi hW' =>
          lbFn_any w.heap.size (w.heap.size + 1) A0 c0 L0 q i W' hlen.2 hc hmem (by omega) (by omega) (by omega) (by have := hW'.size; omega) (by have := hW'.size; omega)
            ((hW'.cell (p := ⟨w.heap.size, 0, none⟩) (by show w.heap.size < _; omega)).trans k1) ((hW'.cell (p := ⟨w.heap.size + 1, 0, none⟩) (by show w.heap.size + 1 < _; omega)).trans k2)
            ((h0.below hB2).below hW'))
        (fun a b hab ha => lbP_mono hab ha))
      have HE : Hid (∀ m : Nat, ((∀ t, t < m → lbP L0 q t = false) ∧ (∀ t, m ≤ t → t < sm → lbP L0 q t = true) ∧ m ≤ sm) → lbN L0 q = m) := Lib.hid fun m ⟨h1, h2, h3⟩ => by
        refine lbN_of (by omega) ?_ h1
        rcases Nat.lt_or_ge m sm with h | h
        · exact h2 m (Nat.le_refl _) h
        · obtain rfl : m = sm := by omega
          exact hPS
      have KA := Lib.hid k1
      have KB := Lib.hid k2
      rw [hW2, hW1] at HS HB2 HA HSU KA KB
      clear hra h0 k1 k2 hB1 hB2 hs1 hs2 hW2 hW1 hPS hsm hsum hmem hlen hok
      go_enter Try.func6, Try.ntmps6
      go_wp2_with (first
        | (go_at_call 13; refine HA.out.mono ?_; rintro e w' ⟨rfl, rfl⟩)
        | (go_at_call 15; refine HSU.out.mono ?_; rintro e w' ⟨rfl, rfl⟩)
        | (go_at_call 14; refine HS.out.mono ?_; rintro e w3 ⟨m, rfl, hm, hb⟩; have HV := Lib.hid (HE.out m hm); clear hm))
      go_ret2
      exact ⟨by rw [HV.out]; rfl, below_nextN HB2.out HB2.out.size hb⟩
    · have hok : okLB L0 a1 = false := by unfold okLB; rw [decide_eq_false hq, Bool.and_false]
      rw [lbR_no hok, hok]
      rw [hW2, hW1] at HA HB2
      rcases (show a1 < 1 ∨ 1 ≤ a1 ∧ 8 < a1 by omega) with hd | ⟨hd1, hd2⟩
      all_goals
        clear hW1 hW2 hs1 hs2 hB1 hB2 k1 k2 h0 hok hra hq
        go_enter Try.func6, Try.ntmps6
        go_wp2_with (go_at_call 13; refine HA.out.mono ?_; rintro e w' ⟨rfl, rfl⟩)
        go_ret2
        exact ⟨rfl, HB2.out⟩
end Go.Proofs.Ytnijedmnjmeciaa

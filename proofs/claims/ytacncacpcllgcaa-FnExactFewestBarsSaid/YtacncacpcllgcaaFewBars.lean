/- FewestBars of the program. No condition but the lists' lengths. -/
import Derived.Test.YtacncacpcllgcaaFirstCutJ
namespace Go.Proofs.Ytacncacpcllgcaa
open Go.RowKit

theorem foldl_max_ge : ∀ (L : List Int) (a : Int), a ≤ L.foldl max a ∧ ∀ x ∈ L, x ≤ L.foldl max a
  | [], a => ⟨Int.le_refl _, fun x h => by cases h⟩
  | y :: L, a => by
    obtain ⟨h1, h2⟩ := foldl_max_ge L (max a y)
    rw [List.foldl_cons]
    refine ⟨by omega, fun x hx => ?_⟩
    rcases List.mem_cons.1 hx with h | h
    · subst h; omega
    · exact h2 x h
theorem foldl_max_in : ∀ (L : List Int) (a : Int), L.foldl max a = a ∨ L.foldl max a ∈ L
  | [], a => .inl rfl
  | y :: L, a => by
    rw [List.foldl_cons]
    rcases foldl_max_in L (max a y) with h | h
    · rcases Int.le_total a y with h1 | h1
      · right; rw [h, Int.max_eq_right h1]; exact List.mem_cons_self ..
      · left; rw [h, Int.max_eq_left h1]
    · exact .inr (List.mem_cons_of_mem _ h)
theorem maxOf_is {S : List Int} (h0 : 0 < S.length) : Lib.maxOf S ∈ S ∧ ∀ x ∈ S, x ≤ Lib.maxOf S := by
  cases S with
  | nil => cases h0
  | cons y L =>
    have e : Lib.maxOf (y :: L) = (y :: L).foldl max y := rfl
    rw [e]
    refine ⟨?_, (foldl_max_ge (y :: L) y).2⟩
    rcases foldl_max_in (y :: L) y with h | h
    · rw [h]; exact List.mem_cons_self ..
    · exact h
theorem upFrom_mem : ∀ (m n : Nat) (x : Int), x ∈ upFrom n m → (n : Int) ≤ x ∧ x < (n : Int) + m
  | m + 1, n, x, h => by
    rcases List.mem_cons.1 h with h | h
    · omega
    · have := upFrom_mem m (n + 1) x h; omega
theorem upFrom_last (n m : Nat) : ((n + m : Nat) : Int) ∈ upFrom n (m + 1) := by
  rw [upFrom_snoc]; simp
/-- the bars of the first cut are counted by its greatest one -/
theorem few_count {L : List Int} {bar : Int} (h1 : 1 ≤ L.length) : ∀ {f b : Nat}, 1 ≤ b → b + f = L.length → (∀ q, 1 ≤ q → q < b → cutM L (List.replicate q bar) = none) → ((fewM L bar f b).2 : Int) = Lib.maxOf (fewM L bar f b).1 + 1 ∧ (fewM L bar f b).2 ≤ L.length
  | 0, b, hb, hf, hq => by
    obtain ⟨n, hn⟩ : ∃ n, L.length = n + 1 := ⟨L.length - 1, by omega⟩
    show ((L.length : Nat) : Int) = Lib.maxOf (upFrom 0 L.length) + 1 ∧ L.length ≤ L.length
    refine ⟨?_, Nat.le_refl _⟩
    obtain ⟨h2, h3⟩ := maxOf_is (S := upFrom 0 L.length) (by rw [upFrom_len]; exact h1)
    have h4 := upFrom_mem _ _ _ h2
    have h5 := h3 _ (by rw [hn]; exact upFrom_last 0 n)
    omega
  | f + 1, b, hb, hf, hq => by
    unfold fewM
    cases hc : cutM L (List.replicate b bar) with
    | none =>
      refine few_count h1 (by omega) (by omega) ?_
      intro q h2 h3
      by_cases e : q = b
      · subst e; exact hc
      · exact hq q h2 (by omega)
    | some c =>
      have hcl := cutM_len hc
      obtain ⟨h2, h3⟩ := maxOf_is (S := c) (by omega)
      have h4 := cutM_mem hc _ h2
      rw [List.length_replicate] at h4
      show ((b : Nat) : Int) = Lib.maxOf c + 1 ∧ b ≤ L.length
      refine ⟨?_, by omega⟩
      rcases (show Lib.maxOf c < (b : Int) - 1 ∨ (b : Int) - 1 ≤ Lib.maxOf c by omega) with h5 | h5
      · exfalso
        obtain ⟨d, hd⟩ : ∃ d, b = d + 1 := ⟨b - 1, by omega⟩
        rw [hd, List.replicate_succ'] at hc
        have h6 := cutM_out hc fun y hy => by have := h3 y hy; rw [List.length_replicate]; omega
        rcases Nat.eq_zero_or_pos d with h7 | h7
        · subst h7; omega
        · exact cutM_none.1 (hq d h7 (by omega)) h6
      · omega

set_option maxRecDepth 100000 in
set_option maxHeartbeats 1000000 in
theorem implFewestBars_any (A0 : Option Addr) (c0 : Nat) (L0 : List Int) (a1 : Int) (w : World) (l0 : L0.length ≤ 1048576) (f0 : WfL L0) (q0 : L0.length ≤ c0) (h0 : IntSl w A0 L0) (w1 : (Lit.int .i64 a1).wf = true) :
    Calls Try.prog 55 #[.slice A0 L0.length c0, .int .i64 a1] w fun e w' => e = .returned (.tuple #[.int .i64 (barsR L0 a1), .bool (okFit L0 a1)]) ∧ Below w.heap.size w w' := by
  have HF := Lib.hid (implFirstCut_any A0 c0 L0 a1 w l0 f0 q0 h0 w1)
  cases hok : okFit L0 a1
  · rw [show barsR L0 a1 = 0 by unfold barsR; rw [hok]; rfl]
    rw [hok] at HF
    clear hok h0 w1 f0
    go_enter Try.func55, Try.ntmps55
    go_wp2_with fail
    refine HF.out.mono ?_
    rintro e w2 ⟨v, rfl, -, hb⟩
    go_wp2
    go_ret2
    exact ⟨rfl, hb⟩
  · rw [show barsR L0 a1 = ((fewR L0 a1).2 : Nat) by unfold barsR; rw [hok]; rfl]
    rw [hok, show cutR L0 a1 = (fewR L0 a1).1 by unfold cutR; rw [hok]; rfl] at HF
    obtain ⟨hr, -, -⟩ := okFit_at hok
    obtain ⟨hl1, hl8⟩ := okRa_len hr
    have hfl : (fewR L0 a1).1.length = L0.length := fewM_len
    have hcnt := few_count (L := L0) (bar := a1) hl1 (f := L0.length - 1) (b := 1) (Nat.le_refl _) (by omega) (fun q h1 h2 => by omega)
    obtain ⟨S, hS⟩ : ∃ S, S = (fewR L0 a1).1 := ⟨_, rfl⟩
    obtain ⟨m, hm⟩ : ∃ m, m = (fewR L0 a1).2 := ⟨_, rfl⟩
    have hcnt2 : (m : Int) = Lib.maxOf S + 1 ∧ m ≤ L0.length := by rw [hm, hS]; exact hcnt
    rw [← hS] at HF hfl
    rw [← hm]
    have HBO := Lib.hid fun (A : Option Addr) (c : Nat) (W : World) (x : IntSl W A S) => barsOf_any A c S m W (by omega) (by omega) x hcnt2.1 (by omega)
    clear hok h0 w1 f0 hr hcnt hS hm hcnt2 hfl
    go_enter Try.func55, Try.ntmps55
    go_wp2_with fail
    refine HF.out.mono ?_
    rintro e w2 ⟨v, rfl, hown, hb⟩
    obtain ⟨A, c, rfl⟩ := OwnInts.len hown
    have HI := Lib.hid (IntSl.of_own hown)
    clear hown
    go_wp2_with fail
    refine (HBO.out _ _ _ HI.out).mono ?_
    rintro e w3 ⟨rfl, rfl⟩
    go_wp2
    go_ret2
    exact ⟨rfl, hb⟩
end Go.Proofs.Ytacncacpcllgcaa

/- How often each board is painted: 'spec.stCoats'. -/
import Derived.Test.YtohmodjigneldaaIntRow
namespace Go.Proofs.Ytohmodjigneldaa
open Go.RowKit

/-- does a stroke paint a board -/
def hits (x : Strk) (i : Nat) : Int := if x.f ≤ (i : Int) ∧ (i : Int) ≤ x.t then 1 else 0
def coatF (L : List Strk) (j i : Nat) : Int := ((L.take j).map fun x => hits x i).sum
theorem coatF_zero (L : List Strk) (i : Nat) : coatF L 0 i = 0 := rfl
theorem coatF_succ {L : List Strk} {j : Nat} (h : j < L.length) (i : Nat) : coatF L (j + 1) i = coatF L j i + hits L[j] i := by
  unfold coatF; rw [List.take_succ_eq_append_getElem h, List.map_append, List.sum_append]; simp
theorem coatF_bound (L : List Strk) (i : Nat) : ∀ j, j ≤ L.length → 0 ≤ coatF L j i ∧ coatF L j i ≤ (j : Int)
  | 0, _ => ⟨Int.le_refl _, Int.le_refl _⟩
  | j + 1, h => by
    have ih := coatF_bound L i j (by omega)
    rw [coatF_succ (by omega)]
    unfold hits
    split <;> omega
/-- the row while a stroke is counted, up to the board b -/
def partF (L : List Strk) (j : Nat) (x : Strk) (b i : Nat) : Int := coatF L j i + if x.f ≤ (i : Int) ∧ i < b then 1 else 0
theorem partF_start (L : List Strk) (j : Nat) (x : Strk) (i : Nat) : coatF L j i = partF L j x x.f.toNat i := by
  unfold partF; rw [if_neg (by omega)]; omega
theorem partF_step (L : List Strk) (j : Nat) (x : Strk) (b i : Nat) (hb : x.f ≤ (b : Int)) : (if i = b then partF L j x b b + 1 else partF L j x b i) = partF L j x (b + 1) i := by
  unfold partF
  by_cases e : i = b
  · subst e; rw [if_pos rfl, if_neg (by omega), if_pos (by omega)]; omega
  · rw [if_neg e]
    by_cases h : x.f ≤ (i : Int) ∧ i < b
    · rw [if_pos h, if_pos (by omega)]
    · rw [if_neg h, if_neg (by omega)]
theorem partF_own (L : List Strk) (j : Nat) (x : Strk) (b : Nat) : partF L j x b b = coatF L j b := by unfold partF; rw [if_neg (by omega)]; omega
theorem partF_end {L : List Strk} {j : Nat} (h : j < L.length) (h0 : 0 ≤ L[j].t) (i : Nat) : partF L j L[j] (L[j].t.toNat + 1) i = coatF L (j + 1) i := by
  rw [coatF_succ h]
  unfold partF hits
  congr 1
  by_cases hh : L[j].f ≤ (i : Int) ∧ (i : Int) ≤ L[j].t
  · rw [if_pos hh, if_pos (by omega)]
  · rw [if_neg hh, if_neg (by omega)]

theorem cell_new (w : World) (cs : Array Value) (ty : TypeId) (i : Nat) (u : Value) (h : cs[i]? = some u) : (w.alloc (.cells cs ty)).cell? ⟨w.heap.size, i, none⟩ = some u := by
  rw [cell_of_row _ w.heap.size i cs ty (0, 0) (heap_alloc_new w _)]; exact h
theorem cell_far {g g' : Nat} (w : World) (u : Value) (a i : Nat) (hne : g' ≠ g) : (w.setCell ⟨g, a, none⟩ u).cell? ⟨g', i, none⟩ = w.cell? ⟨g', i, none⟩ :=
  World.cell?_of_block (Below.heap_setCell w ⟨g, a, none⟩ u g' (fun e => hne e))

set_option maxRecDepth 100000 in
set_option maxHeartbeats 4000000 in
theorem stCoats_any (n : Nat) (A : Option Addr) (cap : Nat) (L : List Strk) (w : World) (h1 : 1 ≤ n) (h20 : n ≤ 20) (h40 : L.length ≤ 40) (hat : ∀ k (hk : k < L.length), okS n L[k] = true) (h : StrkSl w A L) :
    Calls Try.prog 35 #[.int .i64 n, .slice A L.length cap] w fun e w' => ∃ g, e = .returned (.slice (some ⟨g, 0, none⟩) n n) ∧ RowIs w' 3 w.heap.size g n (coatF L L.length) ∧ Below w.heap.size w w' := by
  obtain ⟨i0, hi, hz0, hz1, hz2⟩ := info_parts info_int
  have HOK := Lib.hid hat
  have HSL := Lib.hid h
  clear hat h
  go_enter Try.func35, Try.ntmps35
  go_wp2_with (at_make; refine wpList_make_full _ rfl (.tmp 9) (.tmp 9) _ rfl w.heap.size 3 i0 _ 1 Try.underlying32 hi hz0 hz1 .i64 .i64 _ _ n rfl rfl rfl rfl (by rw [hz2]; omega) (by unfold maxLen; omega) (Nat.le_refl _) ?_; intro w1 hown hgrow)
  have HR := Lib.hid (RowIs.made hown)
  have HG := Lib.hid ((Below.refl w.heap.size w).grown hgrow (Nat.le_refl _) (fun k hk => by cases hk))
  have hw1 := hgrow.size
  clear hown hgrow
  go_loopw [13] (fun c wr => ∃ j : Nat, j ≤ L.length ∧ c = .int .i64 j ∧ RowIs wr 3 w.heap.size w.heap.size n (coatF L j) ∧ Below w.heap.size w wr) (fun c _ => L.length - (intOf c).toNat)
  case atStart => exact ⟨0, Nat.zero_le _, rfl, HR.out.congr (fun i _ => (coatF_zero L i).symm), HG.out⟩
  case round =>
    clear HR HG
    obtain ⟨j, hj, rfl, hrow, hb⟩ := hrel
    have HR := Lib.hid hrow
    have HG := Lib.hid hb
    clear hrow hb
    by_cases hlt : j < L.length
    · obtain ⟨g, off, rfl, hg, hat⟩ := (HSL.out.below HG.out).some (by omega)
      obtain ⟨d1, d2, d3⟩ := hat j hlt
      obtain ⟨a1, a2, a3, a4⟩ := okS_nums (HOK.out j hlt)
      have hrl := HR.out.lt.2
      obtain ⟨x, hx⟩ : ∃ x, x = L[j] := ⟨_, rfl⟩
      rw [← hx] at d1 d2 d3 a1 a2 a3 a4
      obtain ⟨f, hf⟩ : ∃ f : Nat, (f : Int) = x.f := ⟨x.f.toNat, by omega⟩
      obtain ⟨t, ht⟩ : ∃ t : Nat, (t : Int) = x.t := ⟨x.t.toNat, by omega⟩
      rw [← hf] at d1 a1 a2
      rw [← ht] at d2 a2 a3
      have HX : Hid (x = L[j] ∧ (f : Int) = x.f ∧ (t : Int) = x.t) := Lib.hid ⟨hx, hf, ht⟩
      have HRA := Lib.hid (RowIs.congr (HR.out.below (below_new wr (.cells #[.int .i64 f, .int .i64 t, .string x.c] 45))) (G := partF L j x f) (fun i _ => by rw [partF_start L j x i, ← hf]; rfl))
      have HGA := Lib.hid (HG.out.alloc HG.out.size (.cells #[.int .i64 f, .int .i64 t, .string x.c] 45))
      clear hx hf ht hat
      go_wp2
      have HC0 : Hid ((wr.alloc (.cells #[.int .i64 f, .int .i64 t, .string x.c] 45)).cell? ⟨wr.heap.size, 1, none⟩ = some (.int .i64 t)) := Lib.hid (cell_new wr _ _ 1 _ rfl)
      have hBn : wr.heap.size ≠ w.heap.size := by omega
      go_loopw [8] (fun b wi => ∃ k : Nat, f ≤ k ∧ k ≤ t + 1 ∧ b = .int .i64 k ∧ RowIs wi 3 w.heap.size w.heap.size n (partF L j x k) ∧ Below w.heap.size w wi ∧ wi.cell? ⟨wr.heap.size, 1, none⟩ = some (.int .i64 t)) (fun b _ => t + 1 - (intOf b).toNat)
      case atStart => exact ⟨f, Nat.le_refl _, by omega, rfl, HRA.out, HGA.out, HC0.out⟩
      case round =>
        clear HRA HGA HC0 d1 d2 d3 HR HG
        obtain ⟨k, hk1, hk2, rfl, hrow, hb, hc⟩ := hrel
        have HRI := Lib.hid hrow
        have HGI := Lib.hid hb
        have hrc := Lib.hid fun (hkn : k < n) => hrow.cell k hkn
        have hrf := hrow.frozen k
        clear hrow hb
        by_cases hkt : k ≤ t
        · have hkn : k < n := by omega
          have hv := hrc.out hkn
          have hVb : 0 ≤ partF L j x k k ∧ partF L j x k k ≤ 40 := by rw [partF_own]; have := coatF_bound L k j (by omega); omega
          obtain ⟨V, hV⟩ : ∃ V, V = partF L j x k k := ⟨_, rfl⟩
          rw [← hV] at hv hVb
          have HS := Lib.hid ((HRI.out.store k (V + 1)).congr (G := partF L j x (k + 1)) (fun i _ => by rw [hV]; exact partF_step L j x k i (by rw [← HX.out.2.1]; omega)))
          have HGS := Lib.hid (below_store HGI.out (Nat.le_refl w.heap.size) k (.int .i64 (V + 1)))
          have HCS := Lib.hid ((cell_far _ (.int .i64 (V + 1)) k 1 hBn).trans hc)
          have k0 : (0 : Int) ≤ (k : Int) := by omega
          have k1 : (k : Int) < (n : Int) := by omega
          have k2 : (k : Int) ≤ (t : Int) := by omega
          clear hV hrc
          go_wp2
          go_roundw
          case rel => exact ⟨k + 1, by omega, by omega, by go_num, HS.out, HGS.out, HCS.out⟩
          case measure => simp [intOf]; omega
        · obtain rfl : k = t + 1 := by omega
          have k2 : ¬ ((t + 1 : Nat) : Int) ≤ (t : Int) := by omega
          have HE := Lib.hid (HRI.out.congr (G := coatF L (j + 1)) (fun i _ => by
            have e := partF_end hlt (by rw [← HX.out.1, ← HX.out.2.2]; omega) i
            rw [← HX.out.1, ← HX.out.2.2] at e
            exact e))
          clear hrc
          go_wp2
          go_roundw
          case rel => exact ⟨j + 1, by omega, by go_num, HE.out, HGI.out⟩
          case measure => simp [intOf]; omega
    · obtain rfl : j = L.length := by omega
      go_wp2
      go_ret
      exact ⟨_, rfl, HR.out, HG.out⟩
end Go.Proofs.Ytohmodjigneldaa

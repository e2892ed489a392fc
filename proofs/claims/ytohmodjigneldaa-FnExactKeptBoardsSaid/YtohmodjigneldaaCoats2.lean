/- How often each board is painted: 'impl.countCoats'. -/
import Derived.Test.YtohmodjigneldaaCoats
import Derived.Deep.MidRow
namespace Go.Proofs.Ytohmodjigneldaa
open Go.RowKit

theorem RowIs.block {w : World} {e : TypeId} {base g q : Nat} {F : Nat → Int} (h : RowIs w e base g q F) : w.heap[g]? = some (.cells (rowF q F).toArray e (0, 0)) := by
  rcases h.2 with ⟨hv, _⟩ | ⟨g', cap, cur, hv, _, hg, _, _, hs, ht⟩
  · cases hv
  · injection hv with h1 h2 h3
    injection h1 with h1
    injection h1 with h1
    subst h1 h3
    rw [hg, ← ht, List.take_of_length_le (by simpa using Nat.le_of_eq hs)]
theorem RowIs.of_block {w : World} {e : TypeId} {base g q : Nat} {F : Nat → Int} (h : w.heap[g]? = some (.cells (rowF q F).toArray e (0, 0))) (hb : base ≤ g) (hq : q ≤ maxLen) : RowIs w e base g q F :=
  ⟨by rw [rowF_len, Nat.mul_one], .inr ⟨g, q, _, rfl, hb, h, Nat.le_refl _, hq, by simp [rowF_len], by rw [List.take_of_length_le (by simp [rowF_len])]⟩⟩
theorem below_setRow {B : Nat} {a w : World} {g : Nat} {cs : Array Value} (h : Below B a w) (hg : B ≤ g) : Below B a (w.setRow g cs) :=
  ⟨h.os, h.tape, h.output, by rw [size_setRow]; exact h.size, fun i hi => (setRow_other w g i cs (by omega)).trans (h.block i hi)⟩
def zeros : Array Value := (rowF 20 fun _ => 0).toArray

set_option maxRecDepth 100000 in
set_option maxHeartbeats 4000000 in
theorem countCoats_any (n : Nat) (A : Option Addr) (cap : Nat) (L : List Strk) (w : World) (h20 : n ≤ 20) (h40 : L.length ≤ 40) (hat : ∀ k (hk : k < L.length), okS n L[k] = true) (h : StrkSl w A L) :
    Calls Try.prog 36 #[.slice A L.length cap] w fun e w' => e = .returned (.agg (rowF 20 (coatF L L.length)).toArray) ∧ Below w.heap.size w w' := by
  have HOK := Lib.hid hat
  have HSL := Lib.hid h
  clear hat h
  go_enter Try.func36, Try.ntmps36
  go_wp2
  have HR : Hid (RowIs ((w.alloc (.cells zeros 50)).alloc (.cells zeros 50)) 50 w.heap.size (w.heap.size + 1) 20 (fun _ => 0)) := Lib.hid (RowIs.of_block (heap_alloc2_new w _ _) (Nat.le_succ _) (by unfold maxLen; omega))
  have HQ : Hid (RowIs ((w.alloc (.cells zeros 50)).alloc (.cells zeros 50)) 50 w.heap.size w.heap.size 20 (fun _ => 0)) := Lib.hid (RowIs.of_block (heap_alloc2_old w _ _) (Nat.le_refl _) (by unfold maxLen; omega))
  have HG : Hid (Below w.heap.size w ((w.alloc (.cells zeros 50)).alloc (.cells zeros 50))) := Lib.hid (below_next (below_new w _) (below_new _ _))
  go_loopw [9] (fun c wr => ∃ j : Nat, j ≤ L.length ∧ c = .int .i64 j ∧ RowIs wr 50 w.heap.size (w.heap.size + 1) 20 (coatF L j) ∧ RowIs wr 50 w.heap.size w.heap.size 20 (fun _ => 0) ∧ Below w.heap.size w wr) (fun c _ => L.length - (intOf c).toNat)
  case atStart => exact ⟨0, Nat.zero_le _, rfl, HR.out.congr (fun i _ => (coatF_zero L i).symm), HQ.out, HG.out⟩
  case round =>
    clear HR HG HQ
    obtain ⟨j, hj, rfl, hrow, hres, hb⟩ := hrel
    have HR := Lib.hid hrow
    have HG := Lib.hid hb
    have HQ := Lib.hid hres
    clear hrow hb hres
    by_cases hlt : j < L.length
    · obtain ⟨g, off, rfl, hg, hat⟩ := (HSL.out.below HG.out).some (by omega)
      obtain ⟨d1, d2, d3⟩ := hat j hlt
      obtain ⟨a1, a2, a3, a4⟩ := okS_nums (HOK.out j hlt)
      have hrl := HR.out.lt.2
      obtain ⟨x, hx⟩ : ∃ x, x = L[j] := ⟨_, rfl⟩
      rw [← hx] at d1 d2 d3 a1 a2 a3 a4
      obtain ⟨f, hf⟩ : ∃ f : Nat, (f : Int) = x.f := ⟨x.f.toNat, by omega⟩
      obtain ⟨t, ht⟩ : ∃ t : Nat, (t : Int) = x.t := ⟨x.t.toNat, by omega⟩
      rw [← hf] at d1 a1 a2
      rw [← ht] at d2 a2 a3
      have HX : Hid (x = L[j] ∧ (f : Int) = x.f ∧ (t : Int) = x.t) := Lib.hid ⟨hx, hf, ht⟩
      have HRA := Lib.hid (RowIs.congr (HR.out.below (below_new wr (.cells #[.int .i64 f, .int .i64 t, .string x.c] 45))) (G := partF L j x f) (fun i _ => by rw [partF_start L j x i, ← hf]; rfl))
      have HQA := Lib.hid (HQ.out.below (below_new wr (.cells #[.int .i64 f, .int .i64 t, .string x.c] 45)))
      have HGA := Lib.hid (HG.out.alloc HG.out.size (.cells #[.int .i64 f, .int .i64 t, .string x.c] 45))
      clear hx hf ht hat
      go_wp2
      have HC0 : Hid ((wr.alloc (.cells #[.int .i64 f, .int .i64 t, .string x.c] 45)).cell? ⟨wr.heap.size, 1, none⟩ = some (.int .i64 t)) := Lib.hid (cell_new wr _ _ 1 _ rfl)
      have hBn : wr.heap.size ≠ w.heap.size + 1 := by omega
      have hRn : w.heap.size ≠ w.heap.size + 1 := by omega
      go_loopw [6] (fun b wi => ∃ k : Nat, f ≤ k ∧ k ≤ t + 1 ∧ b = .int .i64 k ∧ RowIs wi 50 w.heap.size (w.heap.size + 1) 20 (partF L j x k) ∧ RowIs wi 50 w.heap.size w.heap.size 20 (fun _ => 0) ∧ Below w.heap.size w wi ∧ wi.cell? ⟨wr.heap.size, 1, none⟩ = some (.int .i64 t)) (fun b _ => t + 1 - (intOf b).toNat)
      case atStart => exact ⟨f, Nat.le_refl _, by omega, rfl, HRA.out, HQA.out, HGA.out, HC0.out⟩
      case round =>
        clear HRA HQA HGA HC0 d1 d2 d3 HR HG HQ
        obtain ⟨k, hk1, hk2, rfl, hrow, hres, hb, hc⟩ := hrel
        have HRI := Lib.hid hrow
        have HGI := Lib.hid hb
        have HQI := Lib.hid hres
        have hrc := Lib.hid fun (hkn : k < 20) => hrow.cell k hkn
        have hrf := hrow.frozen k
        clear hrow hb hres
        by_cases hkt : k ≤ t
        · have hkn : k < 20 := by omega
          have hv := hrc.out hkn
          have hVb : 0 ≤ partF L j x k k ∧ partF L j x k k ≤ 40 := by rw [partF_own]; have := coatF_bound L k j (by omega); omega
          obtain ⟨V, hV⟩ : ∃ V, V = partF L j x k k := ⟨_, rfl⟩
          rw [← hV] at hv hVb
          have HS := Lib.hid ((HRI.out.store k (V + 1)).congr (G := partF L j x (k + 1)) (fun i _ => by rw [hV]; exact partF_step L j x k i (by rw [← HX.out.2.1]; omega)))
          have HGS := Lib.hid (below_store HGI.out (Nat.le_succ w.heap.size) k (.int .i64 (V + 1)))
          have HCS := Lib.hid ((cell_far _ (.int .i64 (V + 1)) k 1 hBn).trans hc)
          have HQS := Lib.hid (HQI.out.far hRn k (.int .i64 (V + 1)))
          have k0 : (0 : Int) ≤ (k : Int) := by omega
          have k1 : (k : Int) < 20 := by omega
          have k2 : (k : Int) ≤ (t : Int) := by omega
          clear hV hrc
          go_wp2
          go_roundw
          case rel => exact ⟨k + 1, by omega, by omega, by go_num, HS.out, HQS.out, HGS.out, HCS.out⟩
          case measure => simp [intOf]; omega
        · obtain rfl : k = t + 1 := by omega
          have k2 : ¬ ((t + 1 : Nat) : Int) ≤ (t : Int) := by omega
          have HE := Lib.hid (HRI.out.congr (G := coatF L (j + 1)) (fun i _ => by
            have e := partF_end hlt (by rw [← HX.out.1, ← HX.out.2.2]; omega) i
            rw [← HX.out.1, ← HX.out.2.2] at e
            exact e))
          clear hrc
          go_wp2
          go_roundw
          case rel => exact ⟨j + 1, by omega, by go_num, HE.out, HQI.out, HGI.out⟩
          case measure => simp [intOf]; omega
    · obtain rfl : j = L.length := by omega
      have HBK := Lib.hid HR.out.block
      have HBQ := Lib.hid HQ.out.block
      have hi20 : (Try.prog.info? 50).map (·.size) = some 20 := by kernel_rfl
      have HIL : Hid ((Try.prog.info? 50).map (·.size) = some (rowF 20 (coatF L L.length)).toArray.size) := Lib.hid (by rw [hi20]; simp [rowF_len])
      have HIS : Hid ((rowF 20 fun _ => 0).toArray.size = (rowF 20 (coatF L L.length)).toArray.size) := Lib.hid (by simp [rowF_len])
      have HO1 : Hid ((rowF 20 (coatF L L.length)).toArray.all (·.oneCell') = true) := Lib.hid (all_oneCell_toArray fun v hv => by
        unfold rowF at hv; obtain ⟨i, _, rfl⟩ := List.mem_map.1 hv; rfl)
      clear hi20
      go_wp2_with (first
        | (refine wpList_load_row rfl 50 (.tmp 3) rfl (w.heap.size + 1) rfl 50 _ (0, 0) _ HBK.out Try.underlying50 rfl HIL.out ?_)
        | (refine wpList_store_row rfl 50 (.tmp 2) (.tmp 27) rfl w.heap.size _ rfl rfl 50 _ HBQ.out HIL.out HIS.out HO1.out ?_))
      refine bodyPost_ret (results_cell_row rfl _ _ w.heap.size 50 _ (0, 0) _ rfl (setRow_heap _ w.heap.size _ _ 50 (0, 0) HBQ.out) Try.underlying50 rfl HIL.out) rfl ?_
      exact ⟨rfl, below_setRow HG.out (Nat.le_refl _)⟩
end Go.Proofs.Ytohmodjigneldaa

/- What a board sees, in the model: 'spec.caSeen', SeenFrom. No condition but the lists' lengths. -/
import Derived.Test.YtnnhkogmppheeaaSee2
namespace Go.Proofs.Ytnnhkogmppheeaa
open Go.RowKit

theorem mostS_any (a b : Int) (w : World) : Calls Try.prog 91 #[.int .i64 a, .int .i64 b] w fun e w' => e = .returned (.int .i64 (max a b)) ∧ w = w' := by
  by_cases h : b < a
  · have HM : Hid (max a b = a) := Lib.hid (by omega)
    rw [HM.out]
    go_enter Try.func91, Try.ntmps91
    go_wp2
    go_ret
    exact ⟨rfl, rfl⟩
  · have HM : Hid (max a b = b) := Lib.hid (by omega)
    rw [HM.out]
    go_enter Try.func91, Try.ntmps91
    go_wp2
    go_ret
    exact ⟨rfl, rfl⟩
theorem leastS_any (a b : Int) (w : World) : Calls Try.prog 115 #[.int .i64 a, .int .i64 b] w fun e w' => e = .returned (.int .i64 (min a b)) ∧ w = w' := by
  by_cases h : a < b
  · have HM : Hid (min a b = a) := Lib.hid (by omega)
    rw [HM.out]
    go_enter Try.func115, Try.ntmps115
    go_wp2
    go_ret
    exact ⟨rfl, rfl⟩
  · have HM : Hid (min a b = b) := Lib.hid (by omega)
    rw [HM.out]
    go_enter Try.func115, Try.ntmps115
    go_wp2
    go_ret
    exact ⟨rfl, rfl⟩

set_option maxRecDepth 20000 in
set_option maxHeartbeats 4000000 in
theorem caSeen_any (b : Nat) (A : Option Addr) (c : Nat) (L : List Int) (w : World) (hb : b < L.length) (l20 : L.length ≤ 20) (h : IntSl w A L) :
    Calls Try.prog 99 #[.slice A L.length c, .int .i64 b] w fun e w' => ∃ v, e = .returned v ∧ OwnInts w' w.heap.size 3 v (pickJ (seeB L b) L.length) ∧ Below w.heap.size w w' := by
  obtain ⟨i0, hi, hz0, hz1, hz2⟩ := info_parts info_int
  obtain ⟨g, off, rfl, hg, hat⟩ := h.some (by omega)
  have HAT := Lib.hid hat
  have cb0 := Lib.hid (hat b hb)
  have hgb : Hid (g < w.heap.size) := Lib.hid hg
  have ib0 : (0 : Int) ≤ (b : Int) := by omega
  have ib1 : (b : Int) < (L.length : Int) := by omega
  obtain ⟨vb, hvb⟩ : ∃ v : Int, v = L[b]'hb := ⟨_, rfl⟩
  rw [← hvb] at cb0
  have HVB := Lib.hid hvb
  clear h hat hg hvb
  go_enter Try.func99, Try.ntmps99
  go_wp2
  go_loopw [5, 12] (fun v i wr => ∃ k : Nat, k ≤ L.length ∧ i = .int .i64 k ∧ OwnInts wr w.heap.size 3 v (pickJ (seeB L b) k) ∧ Below w.heap.size w wr) (fun _ i _ => L.length - (intOf i).toNat)
  case atStart => exact ⟨0, Nat.zero_le _, rfl, OwnInts.nil _ _ _, Below.refl _ _⟩
  case round =>
    obtain ⟨k, hk, rfl, hown, hbb⟩ := hrel
    have HO := Lib.hid hown
    have HB := Lib.hid hbb
    clear hown hbb
    by_cases hlt : k < L.length
    · have ck : wr.cell? ⟨g, off + k, none⟩ = some (.int .i64 (L[k]'hlt)) := (HB.out.cell (p := ⟨g, off + k, none⟩) hgb.out).trans (HAT.out k hlt)
      have cb : wr.cell? ⟨g, off + b, none⟩ = some (.int .i64 vb) := (HB.out.cell (p := ⟨g, off + b, none⟩) hgb.out).trans cb0.out
      have HCT : Hid (∀ n t (ht : t < L.length), (wr.drewN n).cell? ⟨g, off + t, none⟩ = some (.int .i64 L[t])) := Lib.hid fun n t ht => (HB.out.cell (p := ⟨g, off + t, none⟩) hgb.out).trans (HAT.out t ht)
      have ik0 : (0 : Int) ≤ (k : Int) := by omega
      have ik1 : (k : Int) < (L.length : Int) := by omega
      obtain ⟨vk, hvk⟩ : ∃ v : Int, v = L[k]'hlt := ⟨_, rfl⟩
      rw [← hvk] at ck
      obtain ⟨m, hm⟩ : ∃ m : Int, m = min vk vb := ⟨_, rfl⟩
      obtain ⟨lo, hlo⟩ : ∃ n : Nat, n = min k b := ⟨_, rfl⟩
      obtain ⟨hh, hhh⟩ : ∃ n : Nat, n = max k b := ⟨_, rfl⟩
      have HSE : Hid (seeB L b k = (decide (k ≠ b) && betw L lo hh m)) := Lib.hid (by
        unfold seeB; rw [hlo, hhh, hm, getD_lt L k hlt, getD_lt L b (by omega), hvk, HVB.out])
      have HL1 : Hid (∀ n, Calls Try.prog 115 #[.int .i64 vk, .int .i64 vb] (wr.drewN n) fun e w' => e = .returned (.int .i64 m) ∧ w' = wr.drewN n) := Lib.hid fun n => by rw [hm]; exact (leastS_any vk vb _).mono fun _ _ h => ⟨h.1, h.2.symm⟩
      have HL2 : Hid (∀ W, Calls Try.prog 115 #[.int .i64 k, .int .i64 b] W fun e w' => e = .returned (.int .i64 (lo : Int)) ∧ W = w') := Lib.hid fun W => by rw [hlo, show ((min k b : Nat) : Int) = min (k : Int) (b : Int) by omega]; exact leastS_any _ _ W
      have HM2 : Hid (∀ W, Calls Try.prog 91 #[.int .i64 k, .int .i64 b] W fun e w' => e = .returned (.int .i64 (hh : Int)) ∧ W = w') := Lib.hid fun W => by rw [hhh, show ((max k b : Nat) : Int) = max (k : Int) (b : Int) by omega]; exact mostS_any _ _ W
      have HF0 : Hid (((k : Int) != (b : Int)) = (decide (k ≠ b) && betw L lo (lo + 1) m)) := Lib.hid (by
        rw [betw_start, Bool.and_true, Bool.eq_iff_iff, bne_iff_ne, decide_eq_true_iff]; omega)
      have HBS := Lib.hid fun t => betw_succ L lo t m
      have hhl : hh < L.length := by omega
      have HLH : Hid (lo ≤ hh ∧ (lo = hh → k = b)) := Lib.hid (by constructor <;> omega)
      have hll : lo < L.length := by omega
      obtain ⟨f0, hf0⟩ : ∃ f, f = decide (k ≠ b) := ⟨_, rfl⟩
      have HF1 : Hid (k = b → f0 = false) := Lib.hid (by intro e; rw [hf0, e]; simp)
      rw [← hf0] at HF0 HSE
      clear hvk hm hlo hhh hf0
      go_wp2
      go_quiet (first | (go_at_call 115; with_reducible exact Calls.quiet_of_same (HL1.out _)))
      have HCN := Lib.hid (HCT.out nq)
      have HBW : Hid (Below w.heap.size w (wr.drewN nq)) := Lib.hid (below_drewN HB.out nq)
      have HOW : Hid (OwnInts (wr.drewN nq) w.heap.size 3 u5 (pickJ (seeB L b) k)) := Lib.hid (HO.out.below (below_drewN (Below.refl _ _) nq))
      clear HCT
      generalize wr.drewN nq = W at HCN HBW HOW ⊢
      go_wp2_with (go_at_call 115; refine (HL2.out _).mono ?_; rintro e w1 ⟨rfl, rfl⟩)
      rw [HF0.out]
      go_loop [8, 9] (fun f i => ∃ t : Nat, lo + 1 ≤ t ∧ t ≤ max hh (lo + 1) ∧ i = .int .i64 t ∧ f = .bool (f0 && betw L lo t m)) (fun _ i => L.length - (intOf i).toNat)
      case atStart => exact ⟨lo + 1, by omega, by omega, by go_num, rfl⟩
      case round =>
        obtain ⟨t, ht1, ht2, rfl, rfl⟩ := hrel
        by_cases htl : t < hh
        · have ct := HCN.out t (by omega)
          have it0 : (0 : Int) ≤ (t : Int) := by omega
          have it1 : (t : Int) < (L.length : Int) := by omega
          obtain ⟨vt, hvt⟩ : ∃ v : Int, v = L[t]'(by omega) := ⟨_, rfl⟩
          rw [← hvt] at ct
          have HG : Hid (L.getD t 0 = vt) := Lib.hid (by rw [getD_lt L t (by omega), hvt])
          have HN := Lib.hid (HBS.out t)
          clear hvt
          cases hf : (f0 && betw L lo t m)
          · have HR : Hid ((f0 && betw L lo (t + 1) m) = false) := Lib.hid (by rw [HN.out, ← Bool.and_assoc, hf]; rfl)
            clear hf
            go_wp2_with (go_at_call 91; refine (HM2.out _).mono ?_; rintro e w1 ⟨rfl, rfl⟩)
            go_round
            case rel => exact ⟨t + 1, by omega, by omega, by go_num, by rw [HR.out]⟩
            case measure => simp [intOf]; omega
          · by_cases hlm : vt < m
            · have HR : Hid ((f0 && betw L lo (t + 1) m) = true) := Lib.hid (by rw [HN.out, ← Bool.and_assoc, hf, HG.out, decide_eq_true (.inr hlm)]; rfl)
              clear hf
              go_wp2_with (go_at_call 91; refine (HM2.out _).mono ?_; rintro e w1 ⟨rfl, rfl⟩)
              go_round
              case rel => exact ⟨t + 1, by omega, by omega, by go_num, by rw [HR.out]⟩
              case measure => simp [intOf]; omega
            · have HR : Hid ((f0 && betw L lo (t + 1) m) = false) := Lib.hid (by rw [HN.out, ← Bool.and_assoc, hf, HG.out, decide_eq_false (by omega)]; rfl)
              clear hf
              go_wp2_with (go_at_call 91; refine (HM2.out _).mono ?_; rintro e w1 ⟨rfl, rfl⟩)
              go_round
              case rel => exact ⟨t + 1, by omega, by omega, by go_num, by rw [HR.out]; first | rfl | rw [decide_eq_false (by omega)]⟩
              case measure => simp [intOf]; omega
        · have HR : Hid ((f0 && betw L lo t m) = seeB L b k) := Lib.hid (by
            rw [HSE.out]
            obtain ⟨h1, h2⟩ := HLH.out
            by_cases he : lo = hh
            · rw [HF1.out (h2 he)]; rfl
            · rw [show t = hh by omega])
          rw [HR.out]
          cases hp : seeB L b k
          · have HN := Lib.hid (pickJ_no hp)
            go_wp2_with (go_at_call 91; refine (HM2.out _).mono ?_; rintro e w1 ⟨rfl, rfl⟩)
            go_roundw
            case rel => exact ⟨k + 1, by omega, by go_num, by rw [HN.out]; exact HOW.out, HBW.out⟩
            case measure => simp [intOf]; omega
          · have HN := Lib.hid (pickJ_yes hp)
            have hlen := pickJ_len (seeB L b) k
            have hbs := HBW.out.size
            go_wp2_with (first
              | (go_at_call 91; refine (HM2.out _).mono ?_; rintro e w1 ⟨rfl, rfl⟩)
              | (at_builtin; refine wpList_append_own _ rfl (.tmp 48) (.tmp 50) _ rfl w.heap.size 3 i0 _ 1 8 Try.underlying22 hi hz0 hz1 hz2 rfl (by decide) _ (pickJ (seeB L b) k).length ((pickJ (seeB L b) k).map (Value.int .i64)) rfl (World.ownsRow.alloc HOW.out _) ⟨_, 0, none⟩ 1 1 [.int .i64 (k)] rfl rfl (World.news_of_block (cs := #[.int .i64 (k)]) (t := 3) (fr := (0, 0)) (by first | exact heap_alloc_new _ _ | exact heap_new_set _ _ _ _ _)) (by simp [Value.oneCell']) (by unfold maxLen; omega) (by omega) (by simp; omega) ?_; intro v' w3 hown' hgrow _))
            have HR2 : Hid (OwnInts w3 w.heap.size 3 v' (pickJ (seeB L b) (k + 1))) := Lib.hid (by rw [HN.out]; exact OwnInts.snoc hown')
            have HB3 : Hid (Below w.heap.size w w3) := Lib.hid ((HBW.out.alloc hbs _).grown hgrow (by simp; omega) fun k hk => (World.ownsRow.lt HOW.out k hk).1)
            clear hown' hgrow
            go_wp2
            go_roundw
            case rel => exact ⟨k + 1, by omega, by go_num, HR2.out, HB3.out⟩
            case measure => simp [intOf]; omega
    · obtain rfl : k = L.length := by omega
      go_wp2
      go_ret
      exact ⟨_, rfl, HO.out, HB.out⟩
theorem specSeenFrom_any (A0 : Option Addr) (c0 : Nat) (L0 : List Int) (a1 : Int) (w : World) (l0 : L0.length ≤ 1048576) (_ : WfL L0) (_ : L0.length ≤ c0) (h0 : IntSl w A0 L0) (_ : (Lit.int .i64 a1).wf = true) :
    Calls Try.prog 54 #[.slice A0 L0.length c0, .int .i64 a1] w fun e w' => ∃ v, e = .returned (.tuple #[v, .bool (okSee L0 a1)]) ∧ OwnInts w' w.heap.size 3 v (seeR L0 a1) ∧ Below w.heap.size w w' := by
  have HG := Lib.hid (caGood_any A0 c0 L0 w l0 h0)
  cases hk : okH L0
  · have hq : okSee L0 a1 = false := by unfold okSee; rw [hk]; rfl
    rw [seeR_no hq, hq]
    rw [hk] at HG
    clear hq hk h0
    go_enter Try.func54, Try.ntmps54
    go_wp2_with fail
    refine HG.out.mono ?_
    rintro e w1 ⟨rfl, rfl⟩
    go_wp2
    go_ret2
    exact ⟨_, rfl, OwnInts.nil _ _ _, Below.refl _ _⟩
  · obtain ⟨l1, l20⟩ := okH_len hk
    rw [hk] at HG
    by_cases hb : 0 ≤ a1 ∧ a1 ≤ (L0.length : Int) - 1
    · have hq : okSee L0 a1 = true := by unfold okSee; rw [hk, decide_eq_true (by omega)]; rfl
      rw [seeR_yes hq, hq]
      have HI := Lib.hid (l1In_t a1 0 ((L0.length : Int) - 1) w hb)
      obtain ⟨b, rfl⟩ : ∃ b : Nat, a1 = (b : Int) := ⟨a1.toNat, by omega⟩
      rw [Int.toNat_natCast]
      have HC := Lib.hid (caSeen_any b A0 c0 L0 w (by omega) l20 h0)
      clear hq hk h0 hb
      go_enter Try.func54, Try.ntmps54
      go_wp2_with fail
      refine HG.out.mono ?_
      rintro e w1 ⟨rfl, rfl⟩
      go_wp2_with fail
      refine HI.out.mono ?_
      rintro e w1 ⟨rfl, rfl⟩
      go_wp2_with fail
      refine HC.out.mono ?_
      rintro e w1 ⟨v, rfl, hown, hb⟩
      have HO := Lib.hid hown
      have HB := Lib.hid hb
      clear hown hb
      go_wp2
      go_ret2
      exact ⟨_, rfl, HO.out, HB.out⟩
    · have hq : okSee L0 a1 = false := by unfold okSee; rw [hk, decide_eq_false (by omega)]; rfl
      rw [seeR_no hq, hq]
      have HI := Lib.hid (l1In_f a1 0 ((L0.length : Int) - 1) w hb)
      clear hq hk h0 hb
      go_enter Try.func54, Try.ntmps54
      go_wp2_with fail
      refine HG.out.mono ?_
      rintro e w1 ⟨rfl, rfl⟩
      go_wp2_with fail
      refine HI.out.mono ?_
      rintro e w1 ⟨rfl, rfl⟩
      go_wp2
      go_ret2
      exact ⟨_, rfl, OwnInts.nil _ _ _, Below.refl _ _⟩
end Go.Proofs.Ytnnhkogmppheeaa

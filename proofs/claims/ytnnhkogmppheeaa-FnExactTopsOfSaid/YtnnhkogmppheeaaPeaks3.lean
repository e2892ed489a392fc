/- Tops and hollows of the model: 'spec.caPeaks'. No condition but the lists' lengths. -/
import Derived.Test.YtnnhkogmppheeaaPeaks2
namespace Go.Proofs.Ytnnhkogmppheeaa
open Go.RowKit

/-- what the model asks of a board beside: s is 1 for tops, -1 for hollows -/
def byS (s a b : Int) : Bool := decide (s * b < s * a)
theorem byS_1 : byS 1 = higher := by funext a b; unfold byS higher; rw [decide_eq_decide]; omega
theorem byS_m : byS (-1) = lower := by funext a b; unfold byS lower; rw [decide_eq_decide]; omega

set_option maxRecDepth 20000 in
set_option maxHeartbeats 4000000 in
theorem caPeaks_any (s : Int) (A : Option Addr) (c : Nat) (L : List Int) (w : World) (hs : s = 1 ∨ s = -1) (hk : okH L = true) (h : IntSl w A L) :
    Calls Try.prog 94 #[.slice A L.length c, .int .i64 s] w fun e w' => ∃ v, e = .returned v ∧ OwnInts w' w.heap.size 3 v (pickJ (upB (byS s) L) L.length) ∧ Below w.heap.size w w' := by
  obtain ⟨l1, l20⟩ := okH_len hk
  obtain ⟨i0, hi, hz0, hz1, hz2⟩ := info_parts info_int
  obtain ⟨g, off, rfl, hg, hat⟩ := h.some (by omega)
  have HAT := Lib.hid hat
  have HLX := Lib.hid fun k (hk2 : k < L.length) => okH_at hk hk2
  have HS := Lib.hid hs
  have HNI := Lib.hid fun j p (hj : j < L.length) (hp : p < L.length) => nbOk_in (R := byS s) hj hp
  have HNO := Lib.hid fun j (x : Int) hx => nbOk_out (R := byS s) (L := L) (j := j) (x := x) hx
  have HU : Hid (∀ j : Nat, upB (byS s) L j = (nbOk (byS s) L j ((j : Int) - 1) && nbOk (byS s) L j ((j : Int) + 1))) := Lib.hid fun _ => rfl
  have hgb : Hid (g < w.heap.size) := Lib.hid hg
  clear h hat hs hk hg
  go_enter Try.func94, Try.ntmps94
  go_wp2
  go_loopw [5, 13] (fun v i wr => ∃ k : Nat, k ≤ L.length ∧ i = .int .i64 k ∧ OwnInts wr w.heap.size 3 v (pickJ (upB (byS s) L) k) ∧ Below w.heap.size w wr) (fun _ i _ => L.length - (intOf i).toNat)
  case atStart => exact ⟨0, Nat.zero_le _, rfl, OwnInts.nil _ _ _, Below.refl _ _⟩
  case round =>
    obtain ⟨j, hj, rfl, hown, hb⟩ := hrel
    have HO := Lib.hid hown
    have HB := Lib.hid hb
    clear hown hb
    by_cases hlt : j < L.length
    · have cj0 := HAT.out j hlt
      have cj : wr.cell? ⟨g, off + j, none⟩ = some (.int .i64 L[j]) := (HB.out.cell (p := ⟨g, off + j, none⟩) hgb.out).trans cj0
      have hvb := HLX.out j hlt
      have HNJ := Lib.hid fun p hp => HNI.out j p hlt hp
      have HUJ := Lib.hid (HU.out j)
      obtain ⟨x, hx⟩ : ∃ x : Int, x = (j : Int) - 1 := ⟨_, rfl⟩
      obtain ⟨y, hy⟩ : ∃ y : Int, y = (j : Int) + 1 := ⟨_, rfl⟩
      rw [← hx, ← hy] at HUJ
      have wx : IntKind.i64.wrap ((j : Int) - 1) = x := by rw [hx, IntKind.wrap_i64]; omega
      have wy : IntKind.i64.wrap ((j : Int) + 1) = y := by rw [hy, IntKind.wrap_i64]; omega
      obtain ⟨v, hv⟩ : ∃ v : Int, v = L[j]'hlt := ⟨_, rfl⟩
      rw [← hv] at cj HNJ hvb
      have HXC := Lib.hid (nb_cases L.length x)
      have HYC := Lib.hid (nb_cases L.length y)
      obtain ⟨sv, hsv⟩ : ∃ m : Int, m = s * v := ⟨_, rfl⟩
      have hsv1 : -50 ≤ sv ∧ sv ≤ 50 := by rcases HS.out with h | h <;> rw [h] at hsv <;> omega
      have wsv : IntKind.i64.wrap (s * v) = sv := by rw [← hsv, IntKind.wrap_i64]; omega
      have HSV := Lib.hid hsv
      have HSZ : Hid (w.heap.size ≤ wr.heap.size) := Lib.hid HB.out.size
      have HVE := Lib.hid hv
      have HYE := Lib.hid hy
      clear hx hy hv cj0 hsv
      go_wp2
      obtain ⟨W2, hW2⟩ : ∃ W2, W2 = wr.alloc (.cells #[.int .i64 x, .int .i64 y] 3) := ⟨_, rfl⟩
      have b0 : W2.cell? ⟨wr.heap.size, 0, none⟩ = some (.int .i64 x) := by rw [hW2, cell_of_row _ wr.heap.size 0 _ _ (0, 0) (heap_alloc_new wr _)]; rfl
      have b1 : W2.cell? ⟨wr.heap.size, 1, none⟩ = some (.int .i64 y) := by rw [hW2, cell_of_row _ wr.heap.size 1 _ _ (0, 0) (heap_alloc_new wr _)]; rfl
      have HB2 : Hid (Below w.heap.size w W2) := Lib.hid (by rw [hW2]; exact HB.out.alloc HSZ.out _)
      have HO2 : Hid (OwnInts W2 w.heap.size 3 u5 (pickJ (upB (byS s) L) j)) := Lib.hid (by rw [hW2]; exact HO.out.below (below_new wr _))
      have HACC : Hid (∃ acc : Nat → Bool, acc 0 = true ∧ acc 1 = nbOk (byS s) L j x ∧ acc 2 = (nbOk (byS s) L j x && nbOk (byS s) L j y)) := Lib.hid ⟨fun k => match k with | 0 => true | 1 => nbOk (byS s) L j x | _ => (nbOk (byS s) L j x && nbOk (byS s) L j y), rfl, rfl, rfl⟩
      obtain ⟨acc, ha0, ha1, ha2⟩ := HACC.out
      have HA0 := Lib.hid ha0
      have HA1 := Lib.hid ha1
      have HA2 := Lib.hid ha2
      have HW2 := Lib.hid hW2
      clear ha0 ha1 ha2 HACC
      rw [← hW2]
      clear hW2
      go_loop [8, 24] (fun pk i => ∃ k : Nat, k ≤ 2 ∧ i = .int .i64 k ∧ pk = .bool (acc k)) (fun _ i => 2 - (intOf i).toNat)
      case atStart => exact ⟨0, by omega, rfl, by rw [HA0.out]⟩
      case round =>
        obtain ⟨k, hk2, rfl, rfl⟩ := hrel
        have c2 : W2.cell? ⟨g, off + j, none⟩ = some (.int .i64 v) := by rw [HW2.out]; exact ((below_new wr _).cell (p := ⟨g, off + j, none⟩) (by have := hgb.out; have := HSZ.out; show g < _; omega)).trans cj
        obtain rfl | rfl | rfl : k = 0 ∨ k = 1 ∨ k = 2 := by omega
        · rcases HXC.out with ho | ⟨p, hp, hpl⟩
          · have HN := Lib.hid (HNO.out j _ ho)
            have HK1 : Hid (acc 1 = acc 0) := Lib.hid (by rw [HA1.out, HA0.out, HN.out])
            by_cases h0 : 0 ≤ x
            · have h1 : ¬ x < (L.length : Int) := fun h => ho ⟨h0, h⟩
              clear ho
              go_wp2
              go_round
              case rel => exact ⟨1, by omega, by go_num, by rw [HK1.out]⟩
              case measure => simp [intOf]
            · clear ho
              go_wp2
              go_round
              case rel => exact ⟨1, by omega, by go_num, by rw [HK1.out]⟩
              case measure => simp [intOf]
          · have cp0 := HAT.out p hpl
            have cp : W2.cell? ⟨g, off + p, none⟩ = some (.int .i64 (L[p]'hpl)) := by rw [HW2.out]; exact ((below_new wr _).cell (p := ⟨g, off + p, none⟩) (by have := hgb.out; have := HSZ.out; show g < _; omega)).trans ((HB.out.cell (p := ⟨g, off + p, none⟩) hgb.out).trans cp0)
            have HN := Lib.hid (HNJ.out p hpl)
            have htb := HLX.out p hpl
            rw [← hp] at HN
            obtain ⟨t, ht⟩ : ∃ t : Int, t = L[p]'hpl := ⟨_, rfl⟩
            rw [← ht] at cp HN htb
            obtain ⟨st, hst⟩ : ∃ m : Int, m = s * t := ⟨_, rfl⟩
            have hst1 : -50 ≤ st ∧ st ≤ 50 := by rcases HS.out with h | h <;> rw [h] at hst <;> omega
            have wst : IntKind.i64.wrap (s * t) = st := by rw [← hst, IntKind.wrap_i64]; omega
            have hpi : (p : Int) < (L.length : Int) := by omega
            have HBY : Hid (byS s v t = decide (st < sv)) := Lib.hid (by unfold byS; rw [← hst, ← HSV.out])
            clear cp0 ht hst
            by_cases hle : sv ≤ st
            · have HK1 : Hid (acc 1 = false) := Lib.hid (by rw [HA1.out, HN.out, HBY.out, decide_eq_false (by omega)])
              clear hpl HN HBY
              subst hp
              go_wp2
              go_round
              case rel => exact ⟨1, by omega, by go_num, by rw [HK1.out]⟩
              case measure => simp [intOf]
            · have HK1 : Hid (acc 1 = acc 0) := Lib.hid (by rw [HA1.out, HA0.out, HN.out, HBY.out, decide_eq_true (by omega)])
              clear hpl HN HBY
              subst hp
              go_wp2
              go_round
              case rel => exact ⟨1, by omega, by go_num, by rw [HK1.out]⟩
              case measure => simp [intOf]
        · rcases HYC.out with ho | ⟨p, hp, hpl⟩
          · have HN := Lib.hid (HNO.out j _ ho)
            have HK1 : Hid (acc 2 = acc 1) := Lib.hid (by rw [HA2.out, HA1.out, HN.out, Bool.and_true])
            by_cases h0 : 0 ≤ y
            · have h1 : ¬ y < (L.length : Int) := fun h => ho ⟨h0, h⟩
              clear ho
              go_wp2
              go_round
              case rel => exact ⟨2, by omega, by go_num, by rw [HK1.out]⟩
              case measure => simp [intOf]
            · clear ho
              go_wp2
              go_round
              case rel => exact ⟨2, by omega, by go_num, by rw [HK1.out]⟩
              case measure => simp [intOf]
          · have cp0 := HAT.out p hpl
            have cp : W2.cell? ⟨g, off + p, none⟩ = some (.int .i64 (L[p]'hpl)) := by rw [HW2.out]; exact ((below_new wr _).cell (p := ⟨g, off + p, none⟩) (by have := hgb.out; have := HSZ.out; show g < _; omega)).trans ((HB.out.cell (p := ⟨g, off + p, none⟩) hgb.out).trans cp0)
            have HN := Lib.hid (HNJ.out p hpl)
            have htb := HLX.out p hpl
            rw [← hp] at HN
            obtain ⟨t, ht⟩ : ∃ t : Int, t = L[p]'hpl := ⟨_, rfl⟩
            rw [← ht] at cp HN htb
            obtain ⟨st, hst⟩ : ∃ m : Int, m = s * t := ⟨_, rfl⟩
            have hst1 : -50 ≤ st ∧ st ≤ 50 := by rcases HS.out with h | h <;> rw [h] at hst <;> omega
            have wst : IntKind.i64.wrap (s * t) = st := by rw [← hst, IntKind.wrap_i64]; omega
            have hpi : (p : Int) < (L.length : Int) := by omega
            have HBY : Hid (byS s v t = decide (st < sv)) := Lib.hid (by unfold byS; rw [← hst, ← HSV.out])
            clear cp0 ht hst
            by_cases hle : sv ≤ st
            · have HK1 : Hid (acc 2 = false) := Lib.hid (by rw [HA2.out, HN.out, HBY.out, decide_eq_false (by omega), Bool.and_false])
              clear hpl HN HBY
              subst hp
              go_wp2
              go_round
              case rel => exact ⟨2, by omega, by go_num, by rw [HK1.out]⟩
              case measure => simp [intOf]
            · have HK1 : Hid (acc 2 = acc 1) := Lib.hid (by rw [HA2.out, HA1.out, HN.out, HBY.out, decide_eq_true (by omega), Bool.and_true])
              clear hpl HN HBY
              subst hp
              go_wp2
              go_round
              case rel => exact ⟨2, by omega, by go_num, by rw [HK1.out]⟩
              case measure => simp [intOf]
        · have HR : Hid (acc 2 = upB (byS s) L j) := Lib.hid (by rw [HA2.out, HUJ.out])
          cases hp : acc 2
          · have HN := Lib.hid (pickJ_no (HR.out.symm.trans hp))
            go_wp2
            go_roundw
            case rel => exact ⟨j + 1, by omega, congrArg (Value.int .i64) (by have := HYE.out; omega), by rw [HN.out]; exact HO2.out, HB2.out⟩
            case measure => have := HYE.out; simp [intOf]; omega
          · have HN := Lib.hid (pickJ_yes (HR.out.symm.trans hp))
            have hlen := pickJ_len (upB (byS s) L) j
            have hbs := HB2.out.size
            go_wp2_with (at_builtin; refine wpList_append_own _ rfl (.tmp 50) (.tmp 52) _ rfl w.heap.size 3 i0 _ 1 8 Try.underlying22 hi hz0 hz1 hz2 rfl (by decide) _ (pickJ (upB (byS s) L) j).length ((pickJ (upB (byS s) L) j).map (Value.int .i64)) rfl (World.ownsRow.alloc HO2.out _) ⟨_, 0, none⟩ 1 1 [.int .i64 (j)] rfl rfl (World.news_of_block (cs := #[.int .i64 (j)]) (t := 3) (fr := (0, 0)) (by first | exact heap_alloc_new _ _ | exact heap_new_set _ _ _ _ _)) (by simp [Value.oneCell']) (by unfold maxLen; omega) (by omega) (by simp; omega) ?_; intro v' w3 hown' hgrow _)
            have HR2 : Hid (OwnInts w3 w.heap.size 3 v' (pickJ (upB (byS s) L) (j + 1))) := Lib.hid (by rw [HN.out]; exact OwnInts.snoc hown')
            have HB3 : Hid (Below w.heap.size w w3) := Lib.hid ((HB2.out.alloc hbs _).grown hgrow (by simp; omega) fun k hk => (World.ownsRow.lt HO2.out k hk).1)
            clear hown' hgrow
            go_wp2
            go_roundw
            case rel => exact ⟨j + 1, by omega, congrArg (Value.int .i64) (by have := HYE.out; omega), HR2.out, HB3.out⟩
            case measure => have := HYE.out; simp [intOf]; omega
    · obtain rfl : j = L.length := by omega
      go_wp2
      go_ret
      exact ⟨_, rfl, HO.out, HB.out⟩
theorem specTopsOf_any (A0 : Option Addr) (c0 : Nat) (L0 : List Int) (w : World) (l0 : L0.length ≤ 1048576) (_ : WfL L0) (_ : L0.length ≤ c0) (h0 : IntSl w A0 L0) :
    Calls Try.prog 50 #[.slice A0 L0.length c0] w fun e w' => ∃ v, e = .returned (.tuple #[v, .bool (okH L0)]) ∧ OwnInts w' w.heap.size 3 v (peakR higher L0) ∧ Below w.heap.size w w' := by
  have HG := Lib.hid (caGood_any A0 c0 L0 w l0 h0)
  cases hk : okH L0
  · rw [peakR_no hk]
    rw [hk] at HG
    clear hk h0
    go_enter Try.func50, Try.ntmps50
    go_wp2_with fail
    refine HG.out.mono ?_
    rintro e w1 ⟨rfl, rfl⟩
    go_wp2
    go_ret2
    exact ⟨_, rfl, OwnInts.nil _ _ _, Below.refl _ _⟩
  · rw [peakR_yes hk]
    have HC := Lib.hid (caPeaks_any 1 A0 c0 L0 w (.inl rfl) hk h0)
    rw [hk] at HG
    rw [byS_1] at HC
    clear hk h0
    go_enter Try.func50, Try.ntmps50
    go_wp2_with fail
    refine HG.out.mono ?_
    rintro e w1 ⟨rfl, rfl⟩
    go_wp2_with fail
    refine HC.out.mono ?_
    rintro e w1 ⟨v, rfl, hown, hb⟩
    have HO := Lib.hid hown
    have HB := Lib.hid hb
    clear hown hb HC HG
    go_wp2
    go_ret2
    exact ⟨_, rfl, HO.out, HB.out⟩
theorem specHollowsOf_any (A0 : Option Addr) (c0 : Nat) (L0 : List Int) (w : World) (l0 : L0.length ≤ 1048576) (_ : WfL L0) (_ : L0.length ≤ c0) (h0 : IntSl w A0 L0) :
    Calls Try.prog 52 #[.slice A0 L0.length c0] w fun e w' => ∃ v, e = .returned (.tuple #[v, .bool (okH L0)]) ∧ OwnInts w' w.heap.size 3 v (peakR lower L0) ∧ Below w.heap.size w w' := by
  have HG := Lib.hid (caGood_any A0 c0 L0 w l0 h0)
  cases hk : okH L0
  · rw [peakR_no hk]
    rw [hk] at HG
    clear hk h0
    go_enter Try.func52, Try.ntmps52
    go_wp2_with fail
    refine HG.out.mono ?_
    rintro e w1 ⟨rfl, rfl⟩
    go_wp2
    go_ret2
    exact ⟨_, rfl, OwnInts.nil _ _ _, Below.refl _ _⟩
  · rw [peakR_yes hk]
    have HC := Lib.hid (caPeaks_any (-1) A0 c0 L0 w (.inr rfl) hk h0)
    rw [hk] at HG
    rw [byS_m] at HC
    clear hk h0
    go_enter Try.func52, Try.ntmps52
    go_wp2_with fail
    refine HG.out.mono ?_
    rintro e w1 ⟨rfl, rfl⟩
    go_wp2_with fail
    refine HC.out.mono ?_
    rintro e w1 ⟨v, rfl, hown, hb⟩
    have HO := Lib.hid hown
    have HB := Lib.hid hb
    clear hown hb HC HG
    go_wp2
    go_ret2
    exact ⟨_, rfl, HO.out, HB.out⟩
end Go.Proofs.Ytnnhkogmppheeaa

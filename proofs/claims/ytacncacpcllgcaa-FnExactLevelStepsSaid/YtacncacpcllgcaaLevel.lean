/- LevelSteps of both sides. No condition but the lists' lengths. -/
import Derived.Test.YtacncacpcllgcaaGround
import Derived.Test.YtacncacpcllgcaaLevelMath
import Derived.Test.YtacncacpcllgcaaRow
import Derived.Test.YtacncacpcllgcaaRevClone
namespace Go.Proofs.Ytacncacpcllgcaa
open Go.RowKit

def inHi (L : List Int) : Prop := ∀ x ∈ L, 0 ≤ x ∧ x ≤ 50
theorem inHi_at {L : List Int} (h : inHi L) {k : Nat} (hk : k < L.length) : 0 ≤ L.getD k 0 ∧ L.getD k 0 ≤ 50 := by
  rw [getD_lt L k hk]; exact h _ (List.getElem_mem hk)
theorem passK_bd {L : List Int} {m : Int} (h : inHi L) (hm : 0 ≤ m) : ∀ i, i < L.length → 0 ≤ passK L m i ∧ passK L m i ≤ 50
  | 0, hi => inHi_at h hi
  | i + 1, hi => by
    have h1 := inHi_at h hi
    have h2 := passK_bd h hm i (by omega)
    have e : passK L m (i + 1) = min (L.getD (i + 1) 0) (passK L m i + m) := rfl
    omega
theorem passL_hi {L : List Int} {m : Int} (h : inHi L) (hm : 0 ≤ m) : inHi (passL L m) := by
  intro x hx
  unfold passL at hx
  obtain ⟨i, hi, rfl⟩ := List.mem_map.1 hx
  exact passK_bd h hm i (List.mem_range.1 hi)
/-- the steps behind so many passes -/
def seqL (L : List Int) (m : Int) : Nat → List Int
  | 0 => L
  | k + 1 => (passL (seqL L m k) m).reverse
theorem seqL_len (L : List Int) (m : Int) : ∀ k, (seqL L m k).length = L.length
  | 0 => rfl
  | k + 1 => by show (passL (seqL L m k) m).reverse.length = _; rw [List.length_reverse, passL_len, seqL_len L m k]
theorem seqL_hi {L : List Int} {m : Int} (h : inHi L) (hm : 0 ≤ m) : ∀ k, inHi (seqL L m k)
  | 0 => h
  | k + 1 => fun x hx => passL_hi (seqL_hi h hm k) hm x (List.mem_reverse.1 hx)
/-- the first j heights passed -/
def mixP (L : List Int) (m : Int) (j : Nat) : List Int := (List.range L.length).map fun i => if i < j then passK L m i else L.getD i 0
theorem mixP_len (L : List Int) (m : Int) (j : Nat) : (mixP L m j).length = L.length := by simp [mixP]
theorem mixP_one (L : List Int) (m : Int) : mixP L m 1 = L := by
  apply List.ext_getElem
  · rw [mixP_len]
  · intro i h1 h2
    have e : (mixP L m 1)[i] = if i < 1 then passK L m i else L.getD i 0 := by simp [mixP]
    rw [e]
    split
    · next h => obtain rfl : i = 0 := by omega
                exact getD_lt L 0 h2
    · exact getD_lt L i h2
theorem mixP_end (L : List Int) (m : Int) : mixP L m L.length = passL L m := by
  unfold mixP passL
  exact List.map_congr_left fun i hi => by rw [if_pos (List.mem_range.1 hi)]
theorem mixP_at (L : List Int) (m : Int) (j i : Nat) (h : i < L.length) : ((mixP L m j).map (Value.int .i64))[i]? = some (.int .i64 (if i < j then passK L m i else L.getD i 0)) := by
  unfold mixP; rw [List.map_map, List.getElem?_map, List.getElem?_range h]; rfl

set_option maxRecDepth 20000 in
set_option maxHeartbeats 2000000 in
theorem limitRises_any (base g cap : Nat) (L : List Int) (m : Nat) (w : World) (h1 : 1 ≤ L.length) (hl : L.length ≤ 1048576) (hx : inHi L) (hm : m ≤ 50) (h : OwnInts w base 3 (.slice (some ⟨g, 0, none⟩) L.length cap) L) :
    Calls Try.prog 116 #[.slice (some ⟨g, 0, none⟩) L.length cap, .int .i64 m] w fun e w' => e = .returned (.tuple #[]) ∧ OwnInts w' base 3 (.slice (some ⟨g, 0, none⟩) L.length cap) (passL L m) ∧ ∀ B a, B ≤ base → Below B a w → Below B a w' := by
  have HG := Lib.hid (World.ownsRow.lt h g rfl).1
  have HX := Lib.hid hx
  have HO0 : Hid (OwnInts w base 3 (.slice (some ⟨g, 0, none⟩) L.length cap) (mixP L m 1)) := Lib.hid (by rw [mixP_one]; exact h)
  clear h hx
  go_enter Try.func116, Try.ntmps116
  go_wp2
  go_loopw [4] (fun i wr => ∃ j : Nat, 1 ≤ j ∧ j ≤ L.length ∧ i = .int .i64 j ∧ OwnInts wr base 3 (.slice (some ⟨g, 0, none⟩) L.length cap) (mixP L m j) ∧ Hid (∀ B a, B ≤ base → Below B a w → Below B a wr)) (fun i _ => L.length - (intOf i).toNat)
  case atStart => exact ⟨1, Nat.le_refl _, h1, rfl, HO0.out, Lib.hid fun _ _ _ hb => hb⟩
  case round =>
    clear HO0
    obtain ⟨j, hj1, hj, rfl, hown, HB⟩ := hrel
    by_cases hlt : j < L.length
    · obtain ⟨k, rfl⟩ : ∃ k, j = k + 1 := ⟨j - 1, by omega⟩
      have ho : wr.ownsRow base 3 1 (.slice (some ⟨g, 0, none⟩) L.length cap) L.length ((mixP L m (k + 1)).map (Value.int .i64)) := by
        have := hown
        unfold OwnInts at this
        rw [mixP_len] at this
        exact this
      have d1 : wr.cell? ⟨g, k + 1, none⟩ = some (.int .i64 (L.getD (k + 1) 0)) := by
        rw [ho.cellAt (k + 1) (by omega), mixP_at L m (k + 1) (k + 1) hlt, if_neg (by omega)]
      have d2 : wr.cell? ⟨g, k, none⟩ = some (.int .i64 (passK L m k)) := by
        rw [ho.cellAt k (by omega), mixP_at L m (k + 1) k (by omega), if_pos (by omega)]
      have f1 := ho.frozenAt (k + 1)
      have b1 := inHi_at HX.out hlt
      have b2 := passK_bd HX.out (by omega : (0 : Int) ≤ (m : Int)) k (by omega)
      have HST := Lib.hid (ho.stored (k + 1) (.int .i64 (passK L m (k + 1))))
      have HE : Hid (passK L m (k + 1) = min (L.getD (k + 1) 0) (passK L m k + m)) := Lib.hid rfl
      obtain ⟨x, hxx⟩ : ∃ x, x = L.getD (k + 1) 0 := ⟨_, rfl⟩
      obtain ⟨y, hyy⟩ : ∃ y, y = passK L m k := ⟨_, rfl⟩
      rw [← hxx] at d1 b1 HE
      rw [← hyy] at d2 b2 HE
      obtain ⟨j, hjk⟩ : ∃ j, j = k + 1 := ⟨_, rfl⟩
      rw [← hjk] at d1 f1 hlt HST HE ⊢
      have HJ := Lib.hid hjk
      have hj0 : (0 : Int) ≤ (j : Int) := by omega
      have hjl : (j : Int) < (L.length : Int) := by omega
      have k1 : IntKind.i64.wrap ((j : Int) - 1) = (k : Int) := by rw [IntKind.wrap_i64]; omega
      have kn : (0 : Int) ≤ (k : Int) := by omega
      have kl : (k : Int) < (L.length : Int) := by omega
      have k2 : IntKind.i64.wrap (y + (m : Int)) = y + (m : Int) := by rw [IntKind.wrap_i64]; omega
      clear hown ho hxx hyy hjk
      rw [HE.out] at HST
      go_wp2
      go_region
      go_wp2
      go_roundw
      case rel =>
        obtain rfl := HJ.out
        refine ⟨k + 1 + 1, by omega, by omega, by go_num, ?_, ?_⟩
        · have h2 := HST.out.1
          unfold mixP at h2
          rw [← HE.out, mix_set L.length (k + 1) _ _ hlt, HE.out] at h2
          unfold OwnInts
          rw [mixP_len]
          exact World.ownsRow.drew h2
        · exact Lib.hid fun B a hB hb => (below_store (HB.out B a hB hb) (Nat.le_trans hB HG.out) (k + 1) _).drew
      case measure =>
        obtain rfl := HJ.out
        simp [intOf]; omega
    · obtain rfl : j = L.length := by omega
      rw [mixP_end] at hown
      have HO := Lib.hid hown
      clear hown
      go_wp2
      go_end0
      exact ⟨rfl, HO.out, HB.out⟩

/-- heights that may be levelled: ground, and a most from 0 to 50 -/
def okM (m : Int) : Bool := decide (0 ≤ m ∧ m ≤ 50)
def okGM (L : List Int) (m : Int) : Bool := okG L && okM m
def stepsL (L : List Int) (m : Int) : List Int := if okGM L m = true then levL L m else []
theorem stepsL_no {L : List Int} {m : Int} (h : okGM L m = false) : stepsL L m = [] := by unfold stepsL; rw [h]; rfl
theorem stepsL_yes {L : List Int} {m : Int} (h : okGM L m = true) : stepsL L m = levL L m := by unfold stepsL; rw [if_pos h]
theorem levL_len (L : List Int) (m : Int) : (levL L m).length = L.length := by simp [levL]
theorem stepsL_len (L : List Int) (m : Int) : (stepsL L m).length ≤ 1048576 := by
  unfold stepsL
  split
  · next h =>
    unfold okGM at h
    rw [Bool.and_eq_true] at h
    have := (okG_at h.1).1
    rw [levL_len]; omega
  · exact Nat.zero_le _

set_option maxRecDepth 20000 in
set_option maxHeartbeats 2000000 in
theorem implLevelSteps_any (A0 : Option Addr) (c0 : Nat) (L0 : List Int) (a1 : Int) (w : World) (l0 : L0.length ≤ 1048576) (_ : WfL L0) (_ : L0.length ≤ c0) (h0 : IntSl w A0 L0) (_ : (Lit.int .i64 a1).wf = true) :
    Calls Try.prog 67 #[.slice A0 L0.length c0, .int .i64 a1] w fun e w' => ∃ v, e = .returned (.tuple #[v, .bool (okGM L0 a1)]) ∧ OwnInts w' w.heap.size 3 v (stepsL L0 a1) ∧ Below w.heap.size w w' := by
  have HG := Lib.hid (isGround_any A0 c0 L0 w l0 h0)
  cases hg : okG L0
  · have hok : okGM L0 a1 = false := by unfold okGM; rw [hg]; rfl
    rw [stepsL_no hok, hok]
    rw [hg] at HG
    clear hok hg
    go_enter Try.func67, Try.ntmps67
    go_wp2_with fail
    refine HG.out.mono ?_
    rintro e w1 ⟨rfl, rfl⟩
    go_wp2
    go_ret2
    exact ⟨_, rfl, OwnInts.nil _ _ _, Below.refl _ _⟩
  · rw [hg] at HG
    by_cases h1 : a1 < 0
    · have hok : okGM L0 a1 = false := by unfold okGM okM; rw [hg, decide_eq_false (by omega)]; rfl
      rw [stepsL_no hok, hok]
      clear hok hg
      go_enter Try.func67, Try.ntmps67
      go_wp2_with fail
      refine HG.out.mono ?_
      rintro e w1 ⟨rfl, rfl⟩
      go_wp2
      go_ret2
      exact ⟨_, rfl, OwnInts.nil _ _ _, Below.refl _ _⟩
    · by_cases h2 : 50 < a1
      · have hok : okGM L0 a1 = false := by unfold okGM okM; rw [hg, decide_eq_false (by omega)]; rfl
        rw [stepsL_no hok, hok]
        clear hok hg
        go_enter Try.func67, Try.ntmps67
        go_wp2_with fail
        refine HG.out.mono ?_
        rintro e w1 ⟨rfl, rfl⟩
        go_wp2
        go_ret2
        exact ⟨_, rfl, OwnInts.nil _ _ _, Below.refl _ _⟩
      · have hok : okGM L0 a1 = true := by unfold okGM okM; rw [hg, decide_eq_true (by omega)]; rfl
        obtain ⟨m, rfl⟩ : ∃ m : Nat, a1 = m := ⟨a1.toNat, by omega⟩
        rw [stepsL_yes hok, hok, ← two_passes (by omega)]
        obtain ⟨⟨hl1, hl2⟩, hx⟩ := okG_at hg
        have HX : Hid (inHi L0) := Lib.hid hx
        have HCL := Lib.hid (clone_any A0 c0 L0 w (by omega) l0 h0)
        have HLR : Hid (∀ k base g cap W, OwnInts W base 3 (.slice (some ⟨g, 0, none⟩) L0.length cap) (seqL L0 m k) → Calls Try.prog 116 #[.slice (some ⟨g, 0, none⟩) L0.length cap, .int .i64 m] W fun e w' => e = .returned (.tuple #[]) ∧ OwnInts w' base 3 (.slice (some ⟨g, 0, none⟩) L0.length cap) (passL (seqL L0 m k) m) ∧ ∀ B a, B ≤ base → Below B a W → Below B a w') := Lib.hid fun k base g cap W hW => by
          have := limitRises_any base g cap (seqL L0 m k) m W (by rw [seqL_len]; omega) (by rw [seqL_len]; omega) (seqL_hi HX.out (by omega) k) (by omega) (by rw [seqL_len]; exact hW)
          rw [seqL_len] at this
          exact this
        have HRV : Hid (∀ k base g cap W, OwnInts W base 3 (.slice (some ⟨g, 0, none⟩) L0.length cap) (passL (seqL L0 m k) m) → Calls Try.prog 117 #[.slice (some ⟨g, 0, none⟩) L0.length cap] W fun e w' => e = .returned (.tuple #[]) ∧ OwnInts w' base 3 (.slice (some ⟨g, 0, none⟩) L0.length cap) (seqL L0 m (k + 1)) ∧ ∀ B a, B ≤ base → Below B a W → Below B a w') := Lib.hid fun k base g cap W hW => by
          have hl : (passL (seqL L0 m k) m).length = L0.length := by rw [passL_len, seqL_len]
          have := reverse_own (base := base) (g := g) (cap := cap) (e := 3) (L := passL (seqL L0 m k) m) (w := W) (by rw [hl]; omega) (by rw [hl]; omega) (by rw [hl]; exact hW)
          rw [hl] at this
          exact this
        clear hok hg hx h0
        go_enter Try.func67, Try.ntmps67
        go_wp2_with fail
        refine HG.out.mono ?_
        rintro e w1 ⟨rfl, rfl⟩
        go_wp2_with fail
        refine HCL.out.mono ?_
        rintro e w1 ⟨g, cap, rfl, hown, hb⟩
        have HO := Lib.hid hown
        have HB := Lib.hid hb
        clear hown hb HCL HG
        go_wp2
        go_loopw [20] (fun i wr => ∃ j : Nat, j ≤ 2 ∧ i = .int .i64 j ∧ OwnInts wr w.heap.size 3 (.slice (some ⟨g, 0, none⟩) L0.length cap) (seqL L0 m j) ∧ Below w.heap.size w wr) (fun i _ => 2 - (intOf i).toNat)
        case atStart => exact ⟨0, Nat.zero_le _, rfl, HO.out, HB.out⟩
        case round =>
          clear HO HB
          obtain ⟨j, hj, rfl, hown, hb⟩ := hrel
          have HO := Lib.hid hown
          have HB := Lib.hid hb
          clear hown hb
          by_cases hlt : j < 2
          · go_wp2_with fail
            refine (HLR.out _ _ _ _ _ HO.out).mono ?_
            rintro e w2 ⟨rfl, hown2, hb2⟩
            have HO2 := Lib.hid hown2
            have HB2 := Lib.hid (hb2 _ _ (Nat.le_refl _) HB.out)
            clear hown2 hb2
            go_wp2_with fail
            refine (HRV.out _ _ _ _ _ HO2.out).mono ?_
            rintro e w3 ⟨rfl, hown3, hb3⟩
            have HO3 := Lib.hid hown3
            have HB3 := Lib.hid (hb3 _ _ (Nat.le_refl _) HB2.out)
            clear hown3 hb3
            go_wp2
            go_roundw
            case rel => exact ⟨j + 1, by omega, by go_num, HO3.out, HB3.out⟩
            case measure => simp [intOf]; omega
          · obtain rfl : j = 2 := by omega
            go_wp2
            go_ret2
            exact ⟨_, rfl, HO.out, HB.out⟩
end Go.Proofs.Ytacncacpcllgcaa

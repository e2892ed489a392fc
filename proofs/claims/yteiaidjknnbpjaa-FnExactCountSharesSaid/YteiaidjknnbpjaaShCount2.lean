/- CountShares: both functions. No condition but the lists' lengths. -/
import Derived.Test.YteiaidjknnbpjaaShCount
namespace Go.Proofs.Yteiaidjknnbpjaa
open Go.RowKit

def resC (W : List Int) (p : Int) : Int := if okWP W p = true then (cnt (leastT W (onesR p)) W p.toNat : Int) else 0
set_option maxHeartbeats 1000000 in
theorem specCountShares_any (A0 : Option Addr) (c0 : Nat) (L0 : List Int) (a1 : Int) (w : World) (l0 : L0.length ≤ 1048576) (_ : WfL L0) (q0 : L0.length ≤ c0) (h0 : IntSl w A0 L0) (_ : (Lit.int .i64 a1).wf = true) :
    Calls Try.prog 64 #[.slice A0 L0.length c0, .int .i64 a1] w fun e w' => e = .returned (.tuple #[.int .i64 (resC L0 a1), .bool (okWP L0 a1)]) ∧ Below w.heap.size w w' := by
  have HP := Lib.hid (shPainters_any A0 c0 L0 a1 w l0 h0)
  cases hok : okWP L0 a1
  · rw [show resC L0 a1 = 0 by unfold resC; rw [hok]; rfl]
    rw [hok] at HP
    clear hok
    go_enter Try.func64, Try.ntmps64
    go_wp2_with (go_at_call 105; refine HP.out.mono ?_; rintro e w1 ⟨rfl, rfl⟩)
    go_ret2
    exact ⟨rfl, Below.refl _ _⟩
  · rw [show resC L0 a1 = (cnt (leastT L0 (onesR a1)) L0 a1.toNat : Int) by unfold resC; rw [if_pos hok]]
    obtain ⟨hw, hp1, hp5⟩ := okWP_w hok
    have hp : okP a1 = true := by unfold okP; rw [decide_eq_true ⟨hp1, hp5⟩]
    rw [hok] at HP
    obtain ⟨ho, hl, -, -⟩ := onesR_ok hp
    have hbd := least_bd hw ho
    have HL := Lib.hid fun W A c x y => shLeast0_any A0 c0 L0 A c (onesR a1) W hw ho q0 x y
    obtain ⟨m, hm⟩ : ∃ m : Nat, leastT L0 (onesR a1) = m := ⟨(leastT L0 (onesR a1)).toNat, by omega⟩
    rw [hm] at HL hbd ⊢
    rw [hl] at HL
    obtain ⟨p, rfl⟩ : ∃ p : Nat, a1 = ((p + 1 : Nat) : Int) := ⟨a1.toNat - 1, by omega⟩
    have HC := Lib.hid fun W x => shCount_any A0 c0 L0 m hw q0 (by omega) p 0 W (by omega) (Nat.zero_le _) x
    rw [List.drop_zero] at HC
    unfold onesR at HL
    rw [Int.toNat_natCast] at HL ⊢
    have HA := Lib.hid fun W => shSame_any (p + 1) W (by omega)
    have H0 := Lib.hid h0
    obtain ⟨P, hP⟩ : ∃ P : Nat, P = p + 1 := ⟨_, rfl⟩
    rw [← hP] at HP HL HC HA ⊢
    clear hp ho hl h0 hok hw hm hP
    go_enter Try.func64, Try.ntmps64
    go_wp2_with (first
      | (go_at_call 105; refine HP.out.mono ?_; rintro e w1 ⟨rfl, rfl⟩)
      | (go_at_call 108; refine (HA.out _).mono ?_; rintro e w1 ⟨v, rfl, hown, hb⟩; have HB := Lib.hid hb; have HO := Lib.hid (own_rep hown); obtain ⟨A, c, rfl⟩ := own_any HO.out; have HI := Lib.hid (rep_sl HO.out); clear hown hb HO)
      | (go_at_call 79; refine (HL.out _ _ _ (H0.out.below HB.out) HI.out).mono ?_; rintro e w2 ⟨rfl, q, rfl⟩; have HB2 := Lib.hid (below_drewN (Below.refl w1.heap.size w1) q))
      | (go_at_call 110; refine (HC.out _ ((H0.out.below HB.out).below HB2.out)).mono ?_; rintro e w2 ⟨rfl, rfl⟩))
    go_ret2
    exact ⟨rfl, below_next HB.out HB2.out⟩

theorem cut_range {G : Nat → Int} {N f k : Nat} (h : f + k ≤ N) : (((List.range N).map G).drop f).take k = (List.range k).map fun i => G (f + i) := by
  apply List.ext_getElem?
  intro i
  by_cases hi : i < k
  · rw [List.getElem?_take_of_lt hi, List.getElem?_drop, List.getElem?_map, List.getElem?_map, List.getElem?_range (by omega), List.getElem?_range hi]; rfl
  · rw [List.getElem?_eq_none (by rw [List.length_take]; omega), List.getElem?_eq_none (by rw [List.length_map, List.length_range]; omega)]

/-- the row while the ways of p + 1 painters are counted, up to the board f -/
def waysF (m : Int) (W : List Int) (p f i : Nat) : Int := if i < f then (cnt m (W.drop i) (p + 1) : Int) else (cnt m (W.drop i) p : Int)
theorem waysF_sum {m : Int} {W : List Int} {p f : Nat} (hf : f ≤ W.length) : ((((List.range (W.length + 1)).map (waysF m W p f)).drop f).take (fitN m (W.drop f) + 1)).sum = (cnt m (W.drop f) (p + 1) : Int) := by
  have hfl := fitN_le m (W.drop f)
  rw [List.length_drop] at hfl
  rw [cut_range (by omega), cnt, ← sum_cast, List.map_map]
  congr 1
  apply List.map_congr_left
  intro i _
  unfold waysF
  rw [if_neg (by omega)]
  show _ = ((cnt m ((W.drop f).drop i) p : Nat) : Int)
  rw [List.drop_drop]
theorem waysF_bd {m : Int} {W : List Int} {p f : Nat} (hp : p + 1 ≤ 5) (hl : W.length ≤ 12) (i : Nat) : 0 ≤ waysF m W p f i ∧ waysF m W p f i ≤ 371293 := by
  have h1 := cnt_bd (m := m) (W := W.drop i) (p := p + 1) hp (by rw [List.length_drop]; omega)
  have h2 := cnt_bd (m := m) (W := W.drop i) (p := p) (by omega) (by rw [List.length_drop]; omega)
  unfold waysF
  split <;> omega

set_option maxRecDepth 100000 in
set_option maxHeartbeats 4000000 in
theorem implCount_yes (A0 : Option Addr) (c0 : Nat) (L0 : List Int) (P : Nat) (m : Nat) (w : World) (hw : okW L0 = true) (q0 : L0.length ≤ c0) (h0 : IntSl w A0 L0) (hP1 : 1 ≤ P) (hP5 : P ≤ 5) (_ : m ≤ 30000)
    (HL : Calls Try.prog 61 #[.slice A0 L0.length c0, .int .i64 P] w fun e w' => e = .returned (.tuple #[.int .i64 m, .bool true]) ∧ Below w.heap.size w w') :
    Calls Try.prog 65 #[.slice A0 L0.length c0, .int .i64 P] w fun e w' => e = .returned (.tuple #[.int .i64 (cnt m L0 P : Nat), .bool true]) ∧ Below w.heap.size w w' := by
  obtain ⟨i0, hi, hz0, hz1, hz2⟩ := info_parts info_int
  have hwl := okW_len hw
  have HLL := Lib.hid HL
  have HBW := Lib.hid fun f W0 (hf : f ≤ L0.length) (h : IntSl W0 A0 L0) => boardsWithin_any (subA A0 f c0) (c0 - f) (L0.length - f) (L0.drop f) m W0 (List.length_drop ..) (by omega) (by omega) (fun x hx => okW_mem hw x (List.mem_of_mem_drop hx)) (h.drop f c0 q0)
  have HFL := Lib.hid fun f => fitN_le (m : Int) (L0.drop f)
  have H0 := Lib.hid h0
  clear hw h0 HL
  go_enter Try.func65, Try.ntmps65
  go_wp2_with (first
    | (go_at_call 61; refine HLL.out.mono ?_; rintro e w1 ⟨rfl, hb1⟩; have HB1 := Lib.hid hb1; have hs1 := hb1.size; clear hb1)
    | (at_make; refine wpList_make_full _ rfl (.tmp 20) (.tmp 20) _ rfl w1.heap.size 3 i0 _ 1 Try.underlying24 hi hz0 hz1 .i64 .i64 _ _ (L0.length + 1) rfl rfl rfl rfl (by rw [hz2]; omega) (by unfold maxLen; omega) (Nat.le_refl _) ?_; intro w2 hown hgrow; have HR0 := Lib.hid (RowIs.made hown); have HB2 := Lib.hid (below_next HB1.out ((Below.refl w1.heap.size w1).grown hgrow (Nat.le_refl _) (fun k hk => by cases hk))); have d1 := HR0.out.cell L0.length (by omega); have f1 := HR0.out.frozen L0.length; clear hown hgrow))
  have hgb := HR0.out.lt
  have HR1 := Lib.hid ((HR0.out.store L0.length 1).congr (G := fun i => (cnt m (L0.drop i) 0 : Int)) fun i hi => by
    show (if i = L0.length then (1 : Int) else 0) = ((if L0.drop i = [] then 1 else 0 : Nat) : Int)
    by_cases e : i = L0.length
    · rw [if_pos e, if_pos (by rw [e, List.drop_length])]; rfl
    · rw [if_neg e, if_neg (by intro e2; rw [List.drop_eq_nil_iff] at e2; omega)]; rfl)
  have HBB := Lib.hid (below_store HB2.out hs1 L0.length (.int .i64 1))
  clear HR0 HB2 d1 f1
  go_loopw [9, 27, 31] (fun _ u _ wr => ∃ p : Nat, p ≤ P ∧ u = .int .i64 p ∧ RowIs wr 3 w1.heap.size w1.heap.size (L0.length + 1) (fun i => (cnt m (L0.drop i) p : Int)) ∧ Below w.heap.size w wr) (fun _ u _ _ => P - (intOf u).toNat)
  case atStart => exact ⟨0, Nat.zero_le _, rfl, HR1.out, HBB.out⟩
  case round =>
    clear HR1 HBB
    obtain ⟨p, hp, rfl, hrow, hb⟩ := hrel
    have HR := Lib.hid hrow
    have HB := Lib.hid hb
    clear hrow hb
    by_cases hlt : p < P
    · have HRI := Lib.hid (HR.out.congr (G := waysF m L0 p 0) fun i _ => by unfold waysF; rw [if_neg (by omega)])
      clear HR
      go_wp2
      go_loopw [9, 31] (fun _ u wi => ∃ f : Nat, f ≤ L0.length + 1 ∧ u = .int .i64 f ∧ RowIs wi 3 w1.heap.size w1.heap.size (L0.length + 1) (waysF m L0 p f) ∧ Below w.heap.size w wi) (fun _ u _ => L0.length + 1 - (intOf u).toNat)
      case atStart => exact ⟨0, Nat.zero_le _, rfl, HRI.out, HB.out⟩
      case round =>
        clear HRI HB
        obtain ⟨f, hf, rfl, hrow, hb⟩ := hrel
        have HR := Lib.hid hrow
        have HB := Lib.hid hb
        clear hrow hb
        by_cases hfl : f < L0.length + 1
        · have hq := HFL.out f
          rw [List.length_drop] at hq
          have hcut1 := fun W0 => cut_l A0 L0.length c0 f (by omega) W0
          have HBF := Lib.hid fun W0 x => HBW.out f W0 (by omega) x
          have HSM := Lib.hid (waysF_sum (m := (m : Int)) (W := L0) (p := p) (f := f) (by omega))
          have HWB := Lib.hid fun i => waysF_bd (m := (m : Int)) (W := L0) (p := p) (f := f) (by omega) (by omega) i
          obtain ⟨q, hqe⟩ : ∃ q, q = fitN m (L0.drop f) := ⟨_, rfl⟩
          rw [← hqe] at hq HBF HSM
          have hcl : (((List.range (L0.length + 1)).map (waysF m L0 p f)).drop f |>.take (q + 1)).length = q + 1 := by
            rw [List.length_take, List.length_drop, List.length_map, List.length_range]; omega
          have HSU : Hid (∀ W0, RowIs W0 3 w1.heap.size w1.heap.size (L0.length + 1) (waysF m L0 p f) → Calls Try.prog 88 #[.slice (some ⟨w1.heap.size, f, none⟩) (f + q + 1 - f) (L0.length + 1 - f)] W0 fun e w' => e = .returned (.int .i64 (cnt m (L0.drop f) (p + 1) : Nat)) ∧ W0 = w') := Lib.hid fun W0 hW0 => by
            have := sumOf_any (subA (some ⟨w1.heap.size, 0, none⟩) f (L0.length + 1)) (L0.length + 1 - f) (((List.range (L0.length + 1)).map (waysF m L0 p f)).drop f |>.take (q + 1)) 371293 W0 (by omega) (by decide) (by rw [hcl]; omega)
              (fun x hx => by
                obtain ⟨i, _, rfl⟩ := List.mem_map.1 (cut_mem hx)
                exact HWB.out i) (hW0.sl.cut f (q + 1) (L0.length + 1) (by rw [List.length_map, List.length_range]; exact Nat.le_refl _))
            rw [hcl, HSM.out, sub_lt hfl] at this
            rw [show f + q + 1 - f = q + 1 by omega]
            exact this
          have hcb := cnt_bd (m := (m : Int)) (W := L0.drop f) (p := p + 1) (by omega) (by rw [List.length_drop]; omega)
          have HN := Lib.hid ((HR.out.store f (cnt m (L0.drop f) (p + 1) : Int)).congr (G := waysF m L0 p (f + 1)) fun i hi => by
            unfold waysF
            by_cases e : i = f
            · subst e; rw [if_pos rfl, if_pos (by omega)]
            · rw [if_neg e]
              by_cases h2 : i < f
              · rw [if_pos h2, if_pos (by omega)]
              · rw [if_neg h2, if_neg (by omega)])
          have HBN := Lib.hid (below_store HB.out hs1 f (.int .i64 (cnt m (L0.drop f) (p + 1) : Int)))
          have d1 := HR.out.cell f hfl
          have f1 := HR.out.frozen f
          have hf0 : (0 : Int) ≤ (f : Int) := by omega
          have hf1 : (f : Int) < (L0.length : Int) + 1 := by omega
          obtain ⟨x, hx⟩ : ∃ x, x = cnt m (L0.drop f) (p + 1) := ⟨_, rfl⟩
          rw [← hx] at HSU HN HBN hcb
          clear hqe hcl hx HSM HWB
          go_wp2_with (first
            | (go_at_call 111; refine (HBF.out _ (H0.out.below HB.out)).mono ?_; rintro e w5 ⟨rfl, rfl⟩)
            | (go_at_call 88; refine (HSU.out _ HR.out).mono ?_; rintro e w5 ⟨rfl, rfl⟩))
          go_roundw
          case rel => exact ⟨f + 1, by omega, by go_num, HN.out, HBN.out⟩
          case measure => simp [intOf]; omega
        · have HE := Lib.hid (HR.out.congr (G := fun i => (cnt m (L0.drop i) (p + 1) : Int)) fun i hi => by unfold waysF; rw [if_pos (by omega)])
          have hfe : ((f : Nat) : Int) = (L0.length : Int) + 1 := by omega
          go_wp2
          go_roundw
          case rel => exact ⟨p + 1, by omega, by go_num, HE.out, HB.out⟩
          case measure => simp [intOf]; omega
    · obtain rfl : p = P := by omega
      have d1 := HR.out.cell 0 (by omega)
      rw [List.drop_zero] at d1
      go_wp2
      go_ret2
      exact ⟨rfl, HB.out⟩

theorem implCountShares_any (A0 : Option Addr) (c0 : Nat) (L0 : List Int) (a1 : Int) (w : World) (l0 : L0.length ≤ 1048576) (f0 : WfL L0) (q0 : L0.length ≤ c0) (h0 : IntSl w A0 L0) (w1 : (Lit.int .i64 a1).wf = true) :
    Calls Try.prog 65 #[.slice A0 L0.length c0, .int .i64 a1] w fun e w' => e = .returned (.tuple #[.int .i64 (resC L0 a1), .bool (okWP L0 a1)]) ∧ Below w.heap.size w w' := by
  have hL := implLeastWork_any A0 c0 L0 a1 w l0 f0 q0 h0 w1
  cases hok : okWP L0 a1
  · rw [show resC L0 a1 = 0 by unfold resC; rw [hok]; rfl]
    rw [hok, show resLW L0 a1 = 0 by unfold resLW; rw [hok]; rfl] at hL
    have HL := Lib.hid hL
    clear hok hL
    go_enter Try.func65, Try.ntmps65
    go_wp2_with (go_at_call 61; refine HL.out.mono ?_; rintro e w1 ⟨rfl, hb⟩)
    go_ret2
    exact ⟨rfl, hb⟩
  · rw [show resC L0 a1 = (cnt (leastT L0 (onesR a1)) L0 a1.toNat : Int) by unfold resC; rw [if_pos hok]]
    rw [hok, show resLW L0 a1 = leastT L0 (onesR a1) by unfold resLW; rw [if_pos hok]] at hL
    obtain ⟨hw, hp1, hp5⟩ := okWP_w hok
    have hp : okP a1 = true := by unfold okP; rw [decide_eq_true ⟨hp1, hp5⟩]
    obtain ⟨ho, -, -, -⟩ := onesR_ok hp
    have hbd := least_bd hw ho
    obtain ⟨m, hm⟩ : ∃ m : Nat, leastT L0 (onesR a1) = m := ⟨(leastT L0 (onesR a1)).toNat, by omega⟩
    rw [hm] at hL hbd ⊢
    obtain ⟨p, rfl⟩ : ∃ p : Nat, a1 = p := ⟨a1.toNat, by omega⟩
    rw [Int.toNat_natCast]
    exact implCount_yes A0 c0 L0 p m w hw q0 h0 (by omega) (by omega) (by omega) hL
end Go.Proofs.Yteiaidjknnbpjaa

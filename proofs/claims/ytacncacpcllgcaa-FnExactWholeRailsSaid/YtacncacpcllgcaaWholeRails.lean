/- WholeRails of both sides. No condition but the lists' lengths. -/
import Derived.Test.YtacncacpcllgcaaRoot
namespace Go.Proofs.Ytacncacpcllgcaa
open Go.RowKit

def sqRoot (s : Int) : Int := ((upRoot s.toNat : Nat) : Int)
def sqAll (S : List Int) : Bool := S.all fun s => isSq s.toNat
theorem sqAll_no {S : List Int} {k : Nat} (hk : k < S.length) (h : isSq S[k].toNat = false) : sqAll S = false := by
  unfold sqAll
  rw [List.all_eq_false]
  exact ⟨S[k], List.getElem_mem hk, by rw [h]; decide⟩
theorem sqAll_of {S : List Int} (h : ∀ k (hk : k < S.length), isSq S[k].toNat = true) : sqAll S = true := by
  unfold sqAll
  rw [List.all_eq_true]
  intro x hx
  obtain ⟨k, hk, rfl⟩ := List.getElem_of_mem hx
  exact h k hk
def rootJ (S : List Int) (j : Nat) : List Int := (S.take j).map sqRoot
theorem rootJ_succ {S : List Int} {j : Nat} (h : j < S.length) : rootJ S (j + 1) = rootJ S j ++ [sqRoot S[j]] := by
  unfold rootJ; rw [List.take_succ_eq_append_getElem h, List.map_append]; rfl
theorem rootJ_len {S : List Int} {j : Nat} (h : j ≤ S.length) : (rootJ S j).length = j := by
  unfold rootJ; rw [List.length_map, List.length_take]; omega
theorem rootJ_at {S : List Int} {j : Nat} (h : j < S.length) : ((rootJ S S.length).map (Value.int .i64))[j]? = some (.int .i64 (sqRoot S[j])) := by
  unfold rootJ; rw [List.take_length, List.map_map, List.getElem?_map, List.getElem?_eq_getElem h]; rfl
def okWh (L : List Int) (a : Int) : Bool := okGL L a && sqAll (sqL L a)
def whL (L : List Int) (a : Int) : List Int := if okWh L a = true then rootJ (sqL L a) (sqL L a).length else []
theorem whL_no {L : List Int} {a : Int} (h : okWh L a = false) : whL L a = [] := by unfold whL; rw [h]; rfl
theorem whL_yes {L : List Int} {a : Int} (h : okWh L a = true) : whL L a = rootJ (sqL L a) (sqL L a).length := by unfold whL; rw [if_pos h]
theorem whL_len (L : List Int) (a : Int) : (whL L a).length ≤ 1048576 := by
  unfold whL
  split
  · rw [rootJ_len (Nat.le_refl _)]; exact sqL_len L a
  · exact Nat.zero_le _
theorem sqL_bd {L : List Int} {a : Int} (h : okGL L a = true) : (sqL L a).length ≤ 11 ∧ ∀ x ∈ sqL L a, 1 ≤ x ∧ x ≤ 252500 := by
  obtain ⟨hg, ha⟩ := okGL_at h
  obtain ⟨g, rfl, g1, g2⟩ := okL_nat ha
  obtain ⟨⟨l1, l2⟩, hx⟩ := okG_at hg
  rw [sqL_yes h]
  refine ⟨by rw [sqJ_len]; omega, fun x h2 => ?_⟩
  unfold sqJ at h2
  obtain ⟨k, hk, rfl⟩ := List.mem_map.1 h2
  have := List.mem_range.1 hk
  exact sqK_bd g1 g2 hx (by omega)

set_option maxRecDepth 20000 in
set_option maxHeartbeats 2000000 in
theorem implWholeRails_any (A0 : Option Addr) (c0 : Nat) (L0 : List Int) (a1 : Int) (w : World) (l0 : L0.length ≤ 1048576) (f0 : WfL L0) (q0 : L0.length ≤ c0) (h0 : IntSl w A0 L0) (w1' : (Lit.int .i64 a1).wf = true) :
    Calls Try.prog 65 #[.slice A0 L0.length c0, .int .i64 a1] w fun e w' => ∃ v, e = .returned (.tuple #[v, .bool (okWh L0 a1)]) ∧ OwnInts w' w.heap.size 3 v (whL L0 a1) ∧ Below w.heap.size w w' := by
  obtain ⟨i0, hi, hz0, hz1, hz2⟩ := info_parts info_int
  have HS := Lib.hid (implSquaresOfRails_any A0 c0 L0 a1 w l0 f0 q0 h0 w1')
  cases hok : okGL L0 a1
  · have hno : okWh L0 a1 = false := by unfold okWh; rw [hok]; rfl
    rw [whL_no hno, hno]
    rw [hok] at HS
    clear hok hno
    go_enter Try.func65, Try.ntmps65
    go_wp2_with fail
    refine HS.out.mono ?_
    rintro e w1 ⟨v, rfl, -, hb⟩
    go_wp2
    go_ret2
    exact ⟨_, rfl, OwnInts.nil _ _ _, hb⟩
  · rw [hok] at HS
    obtain ⟨hSl, hSx⟩ := sqL_bd hok
    have HY : Hid (okWh L0 a1 = sqAll (sqL L0 a1)) := Lib.hid (by unfold okWh; rw [hok, Bool.true_and])
    have HN := Lib.hid fun h => whL_no (L := L0) (a := a1) h
    have HYL := Lib.hid fun h => whL_yes (L := L0) (a := a1) h
    obtain ⟨S, hS⟩ : ∃ S, S = sqL L0 a1 := ⟨_, rfl⟩
    rw [← hS] at HS HY hSl hSx HYL
    obtain ⟨R, hR⟩ : ∃ R, R = whL L0 a1 := ⟨_, rfl⟩
    obtain ⟨ok, hk⟩ : ∃ ok, ok = okWh L0 a1 := ⟨_, rfl⟩
    rw [← hR, ← hk] at HN HYL ⊢
    rw [← hk] at HY
    have HX := Lib.hid hSx
    clear hok hS hR hk hSx f0 q0 w1' h0
    go_enter Try.func65, Try.ntmps65
    go_wp2_with fail
    refine HS.out.mono ?_
    rintro e w1 ⟨v, rfl, hown, hb⟩
    have HO := Lib.hid hown
    obtain ⟨A, c, rfl⟩ := hown.len
    have HB := Lib.hid hb
    have hbs := hb.size
    clear hown hb
    go_wp2_with (at_make; refine wpList_make_full _ rfl (.tmp 22) (.tmp 22) _ rfl w1.heap.size 3 i0 _ 1 Try.underlying26 hi hz0 hz1 .i64 .i64 _ _ S.length rfl rfl rfl rfl (by rw [hz2]; omega) (by unfold maxLen; omega) (Nat.le_refl _) ?_; intro w2 hown hgrow)
    have HFi : Hid (Filled w1 w1.heap.size 3 1 (.slice (some ⟨w1.heap.size, 0, none⟩) S.length S.length) S.length ((rootJ S S.length).map (Value.int .i64)) 0 w2) := Lib.hid (Filled.made hown ((Below.refl _ _).grown hgrow (Nat.le_refl _) (fun k hk => by cases hk)))
    have HSI := Lib.hid (IntSl.of_own HO.out)
    clear hown hgrow HS
    go_loopw [9, 10, 11, 12, 26] (fun _ _ _ _ i wr => ∃ j : Nat, j ≤ S.length ∧ i = .int .i64 j ∧ Hid (∀ k (hk : k < S.length), k < j → isSq S[k].toNat = true) ∧ Filled w1 w1.heap.size 3 1 (.slice (some ⟨w1.heap.size, 0, none⟩) S.length S.length) S.length ((rootJ S S.length).map (Value.int .i64)) j wr) (fun _ _ _ _ i _ => S.length - (intOf i).toNat)
    case atStart => exact ⟨0, Nat.zero_le _, rfl, Lib.hid fun k _ h => absurd h (Nat.not_lt_zero _), HFi.out⟩
    case round =>
      clear HFi
      obtain ⟨j, hj, rfl, HQ, hf⟩ := hrel
      have HF1 := Lib.hid hf
      clear hf
      by_cases hjt : j < S.length
      · have hb2 := HF1.out.below0
        obtain ⟨g0, o0, rfl, hg0, hat0⟩ := (HSI.out.below hb2).some (by omega)
        have e1 := hat0 j hjt
        have b1 := HX.out S[j] (List.getElem_mem _)
        have K1 := Lib.hid (rootJ_at hjt)
        have HNO := Lib.hid fun h => sqAll_no hjt h
        have HQ2 : Hid (isSq S[j].toNat = true → ∀ k (hk : k < S.length), k < j + 1 → isSq S[k].toNat = true) := Lib.hid fun h k hk h2 => by
          by_cases e : k = j
          · subst e; exact h
          · exact HQ.out k hk (by omega)
        obtain ⟨s, hs⟩ : ∃ s : Nat, S[j] = s := ⟨S[j].toNat, by omega⟩
        have HC := Lib.hid fun W => wholeRoot_any s W (by omega) (by omega)
        rw [hs] at e1 b1 K1 HNO HQ2
        rw [Int.toNat_natCast] at HNO HQ2
        have hj0 : (0 : Int) ≤ (j : Int) := by omega
        have hj1 : (j : Int) < (S.length : Int) := by omega
        unfold sqRoot at K1
        rw [Int.toNat_natCast] at K1
        clear hat0 hs
        cases hq : isSq s
        · rw [hq] at HC HNO
          have HV : Hid (ok = false) := Lib.hid (by rw [HY.out]; exact HNO.out rfl)
          clear hq
          go_wp2_with fail
          refine (HC.out _).mono ?_
          rintro e w3 ⟨rfl, hb3⟩
          go_wp2
          go_ret2
          exact ⟨_, by (rw [HV.out]; first | done | rfl), by rw [HN.out HV.out]; exact OwnInts.nil _ _ _, below_next (below_next HB.out hb2) hb3⟩
        · rw [hq] at HC HQ2
          clear hq HNO
          go_wp2_with fail
          refine (HC.out _).mono ?_
          rintro e w3 ⟨rfl, hb3⟩
          have HF3 := Lib.hid (HF1.out.below hb3 (Nat.le_refl _))
          obtain ⟨⟨u1, d1⟩, f1⟩ := HF3.out.cell j (by omega)
          go_wp2
          go_roundw
          case rel => exact ⟨j + 1, by omega, by go_num, Lib.hid (HQ2.out (by first | rfl | trivial)), HF3.out.step (by omega) (Nat.le_refl _) K1.out⟩
          case measure => simp [intOf]; omega
      · obtain rfl : j = S.length := by omega
        have HV : Hid (ok = true) := Lib.hid (by rw [HY.out]; exact sqAll_of fun k hk => HQ.out k hk hk)
        have HA2 := Lib.hid (Filled.all (by rw [Nat.mul_one]; exact HF1.out) (by rw [List.length_map, rootJ_len (Nat.le_refl _), Nat.mul_one]))
        have HW : Hid (OwnInts wr w.heap.size 3 (.slice (some ⟨w1.heap.size, 0, none⟩) S.length S.length) R) := Lib.hid (by
          rw [HYL.out HV.out]
          refine OwnInts.mono ?_ hbs
          unfold OwnInts; rw [rootJ_len (Nat.le_refl _)]; exact HA2.out.1)
        go_wp2
        go_ret2
        exact ⟨_, by (rw [HV.out]; first | done | rfl), HW.out, below_next HB.out HA2.out.2⟩

set_option maxHeartbeats 1000000 in
theorem specWholeRails_no (A0 : Option Addr) (c0 : Nat) (L0 : List Int) (a1 : Int) (w : World) (l0 : L0.length ≤ 1048576) (h0 : IntSl w A0 L0) (hok : (okG L0 && okL a1) = false) :
    Calls Try.prog 64 #[.slice A0 L0.length c0, .int .i64 a1] w fun e w' => e = .returned (.tuple #[.slice none 0 0, .bool false]) ∧ Below w.heap.size w w' := by
  have H0 := Lib.hid (poGround_any A0 c0 L0 w l0 h0)
  have H1 := Lib.hid (poLong_any a1 w)
  cases h0 : okG L0
  · clear hok
    rw [h0] at H0
    clear h0 H1
    go_enter Try.func64, Try.ntmps64
    go_wp2_with fail
    refine H0.out.mono ?_
    rintro e w1 ⟨rfl, rfl⟩
    go_wp2
    go_ret2
    exact ⟨rfl, Below.refl _ _⟩
  · skip
    cases h1 : okL a1
    · clear hok
      rw [h0] at H0
      rw [h1] at H1
      clear h0 h1
      go_enter Try.func64, Try.ntmps64
      go_wp2_with fail
      refine H0.out.mono ?_
      rintro e w1 ⟨rfl, rfl⟩
      go_wp2_with fail
      refine H1.out.mono ?_
      rintro e w1 ⟨rfl, rfl⟩
      go_wp2
      go_ret2
      exact ⟨rfl, Below.refl _ _⟩
    · rw [h0, h1] at hok; simp at hok
set_option maxRecDepth 20000 in
set_option maxHeartbeats 2000000 in
theorem specWholeRails_any (A0 : Option Addr) (c0 : Nat) (L0 : List Int) (a1 : Int) (w : World) (l0 : L0.length ≤ 1048576) (_ : WfL L0) (_ : L0.length ≤ c0) (h0 : IntSl w A0 L0) (_ : (Lit.int .i64 a1).wf = true) :
    Calls Try.prog 64 #[.slice A0 L0.length c0, .int .i64 a1] w fun e w' => ∃ v, e = .returned (.tuple #[v, .bool (okWh L0 a1)]) ∧ OwnInts w' w.heap.size 3 v (whL L0 a1) ∧ Below w.heap.size w w' := by
  obtain ⟨i0, hi, hz0, hz1, hz2⟩ := info_parts info_int
  cases hok : okGL L0 a1
  · have hno : okWh L0 a1 = false := by unfold okWh; rw [hok]; rfl
    rw [whL_no hno, hno]
    exact (specWholeRails_no A0 c0 L0 a1 w l0 h0 hok).mono fun e w' h => ⟨_, h.1, OwnInts.nil _ _ _, h.2⟩
  · obtain ⟨hSl, hSx⟩ := sqL_bd hok
    obtain ⟨hg, ha⟩ := okGL_at hok
    have HG := Lib.hid (poGround_any A0 c0 L0 w l0 h0)
    have HA := Lib.hid (poLong_any a1 w)
    rw [hg] at HG
    rw [ha] at HA
    have HY : Hid (okWh L0 a1 = sqAll (sqL L0 a1)) := Lib.hid (by unfold okWh; rw [hok, Bool.true_and])
    have HN := Lib.hid fun h => whL_no (L := L0) (a := a1) h
    have HYL := Lib.hid fun h => whL_yes (L := L0) (a := a1) h
    obtain ⟨R, hR⟩ : ∃ R, R = whL L0 a1 := ⟨_, rfl⟩
    obtain ⟨ok, hk⟩ : ∃ ok, ok = okWh L0 a1 := ⟨_, rfl⟩
    rw [← hR, ← hk] at HN HYL ⊢
    rw [← hk] at HY
    obtain ⟨g, rfl, g1, g2⟩ := okL_nat ha
    have HF := Lib.hid (poSquares_any A0 c0 L0 g w hg g1 g2 h0)
    rw [← sqL_yes hok] at HF
    obtain ⟨S, hS⟩ : ∃ S, S = sqL L0 g := ⟨_, rfl⟩
    rw [← hS] at HF HY hSl hSx HYL
    have HX := Lib.hid hSx
    clear hok hS hR hk hSx hg ha
    go_enter Try.func64, Try.ntmps64
    go_wp2_with fail
    refine HG.out.mono ?_
    rintro e w1 ⟨rfl, rfl⟩
    go_wp2_with fail
    refine HA.out.mono ?_
    rintro e w1 ⟨rfl, rfl⟩
    go_wp2_with fail
    refine HF.out.mono ?_
    rintro e w1 ⟨v, rfl, hown, hb⟩
    have HSI := Lib.hid hown
    obtain ⟨A, c, rfl⟩ := hown.len
    have HSL := Lib.hid (IntSl.of_own HSI.out)
    have HB := Lib.hid hb
    have hbs := hb.size
    clear hown hb HF HG HA
    go_wp2
    go_loopw [6, 8, 9, 22] (fun v _ _ i wr => ∃ j : Nat, j ≤ S.length ∧ i = .int .i64 j ∧ Hid (∀ k (hk : k < S.length), k < j → isSq S[k].toNat = true) ∧ OwnInts wr w1.heap.size 3 v (rootJ S j) ∧ Below w1.heap.size w1 wr) (fun _ _ _ i _ => S.length - (intOf i).toNat)
    case atStart => exact ⟨0, Nat.zero_le _, rfl, Lib.hid fun k _ h => absurd h (Nat.not_lt_zero _), OwnInts.nil _ _ _, Below.refl _ _⟩
    case round =>
      obtain ⟨j, hj, rfl, HQ, hown, hb⟩ := hrel
      have HO := Lib.hid hown
      clear hown
      have hlen := rootJ_len hj
      by_cases hjt : j < S.length
      · obtain ⟨g0, o0, rfl, hg0, hat0⟩ := (HSL.out.below hb).some (by omega)
        have e1 := hat0 j hjt
        have b1 := HX.out S[j] (List.getElem_mem _)
        have HNO := Lib.hid fun h => sqAll_no hjt h
        have HQ2 : Hid (isSq S[j].toNat = true → ∀ k (hk : k < S.length), k < j + 1 → isSq S[k].toNat = true) := Lib.hid fun h k hk h2 => by
          by_cases e : k = j
          · subst e; exact h
          · exact HQ.out k hk (by omega)
        have HNX := Lib.hid (rootJ_succ hjt)
        obtain ⟨s, hs⟩ : ∃ s : Nat, S[j] = s := ⟨S[j].toNat, by omega⟩
        have HC := Lib.hid fun W => poRoot_any s W (by omega)
        have HDS := Lib.hid fun r h1 h2 => down_sq (n := s) (r := r) h1 h2
        rw [hs] at e1 b1 HNO HQ2 HNX
        rw [Int.toNat_natCast] at HNO HQ2
        unfold sqRoot at HNX
        rw [Int.toNat_natCast] at HNX
        have hj0 : (0 : Int) ≤ (j : Int) := by omega
        have hj1 : (j : Int) < (S.length : Int) := by omega
        have hsb : s ≤ 252500 := by omega
        have hbs1 := hb.size
        clear hat0 hs b1
        go_wp2_with fail
        refine (HC.out _).mono ?_
        rintro e w3 ⟨r, rfl, ⟨r1, r2, r3⟩, rfl⟩
        have hrr : r * r ≤ 252500 := by omega
        have er := Int.natCast_mul r r
        have m0 : (0 : Int) ≤ (r : Int) * (r : Int) := by omega
        have m1 : (r : Int) * (r : Int) ≤ 252500 := by omega
        have HDR := Lib.hid (HDS.out r r1 r2)
        by_cases hq : r * r = s
        · have hqi : (r : Int) * (r : Int) = (s : Int) := by omega
          have hqb : ((r : Int) * (r : Int) == (s : Int)) = true := by rw [beq_iff_eq]; exact hqi
          have hqn : ((r : Int) * (r : Int) != (s : Int)) = false := by rw [bne, hqb]; rfl
          have hsq : isSq s = true := by unfold isSq; rw [decide_eq_true_iff]; exact HDR.out.1.1 hq
          have HQ3 := Lib.hid (HQ2.out hsq)
          have HRS : Hid (rootJ S (j + 1) = rootJ S j ++ [(r : Int)]) := Lib.hid (by rw [HNX.out, ← HDR.out.2 (HDR.out.1.1 hq)])
          clear hqi hsq hq hrr er r1 r2 HDS HC HQ2 HNX HDR hqb
          go_wp2_with (at_builtin; refine wpList_append_own _ rfl (.tmp 33) (.tmp 35) _ rfl w1.heap.size 3 i0 _ 1 8 Try.underlying26 hi hz0 hz1 hz2 rfl (by decide) _ (rootJ S j).length ((rootJ S j).map (Value.int .i64)) rfl (World.ownsRow.alloc HO.out _) ⟨_, 0, none⟩ 1 1 [.int .i64 (r)] rfl rfl (World.news_of_block (cs := #[.int .i64 (r)]) (t := 3) (fr := (0, 0)) (heap_alloc_new _ _)) (by simp [Value.oneCell']) (by unfold maxLen; omega) (by omega) (by simp; omega) ?_; intro v' w3 hown' hgrow _)
          have HR : Hid (OwnInts w3 w1.heap.size 3 v' (rootJ S (j + 1))) := Lib.hid (by rw [HRS.out]; exact OwnInts.snoc hown')
          have HB3 : Hid (Below w1.heap.size w1 w3) := Lib.hid ((hb.alloc hbs1 _).grown hgrow (by simp; omega) fun k hk => (World.ownsRow.lt HO.out k hk).1)
          clear hown' hgrow
          go_wp2
          go_roundw
          case rel => exact ⟨j + 1, by omega, by go_num, HQ3, HR.out, HB3.out⟩
          case measure => simp [intOf]; omega
        · have hqi : ¬ (r : Int) * (r : Int) = (s : Int) := by omega
          have hqb : ((r : Int) * (r : Int) == (s : Int)) = false := by rw [beq_eq_false_iff_ne]; exact hqi
          have hqn : ((r : Int) * (r : Int) != (s : Int)) = true := by rw [bne, hqb]; rfl
          have hsq : isSq s = false := by
            unfold isSq; rw [decide_eq_false_iff_not]; exact fun h => hq (HDR.out.1.2 h)
          have HV : Hid (ok = false) := Lib.hid (by rw [HY.out]; exact HNO.out hsq)
          clear hqi hsq hq hrr er r1 r2 HDS HC HQ2 HNX HDR hqb
          go_wp2
          go_ret2
          exact ⟨_, by (rw [HV.out]; first | done | rfl), by rw [HN.out HV.out]; exact OwnInts.nil _ _ _, below_next HB.out hb⟩
      · obtain rfl : j = S.length := by omega
        have HV : Hid (ok = true) := Lib.hid (by rw [HY.out]; exact sqAll_of fun k hk => HQ.out k hk hk)
        have HW := Lib.hid (HO.out.mono hbs)
        go_wp2
        go_ret2
        exact ⟨_, by (rw [HV.out]; first | done | rfl), by rw [HYL.out HV.out]; exact HW.out, below_next HB.out hb⟩
end Go.Proofs.Ytacncacpcllgcaa

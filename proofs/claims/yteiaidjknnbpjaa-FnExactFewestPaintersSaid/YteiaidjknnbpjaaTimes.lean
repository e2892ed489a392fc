/- TimesOf of both sides. No condition but the lists' lengths. -/
import Derived.Test.YteiaidjknnbpjaaWork2
namespace Go.Proofs.Yteiaidjknnbpjaa
open Go.RowKit

def okT (W R S : List Int) : Bool := (okW W && okR R) && isSh W.length R.length S
def timeN (W R : List Int) (T : List Nat) (k : Nat) : Int := R.getD k 0 * workN W T k
def timeJ (W R : List Int) (T : List Nat) (j : Nat) : List Int := (List.range j).map (timeN W R T)
def resT (W R S : List Int) : List Int := if okT W R S = true then timeJ W R (S.map Int.toNat) S.length else []
theorem timeJ_len (W R : List Int) (T : List Nat) (j : Nat) : (timeJ W R T j).length = j := by simp [timeJ]
theorem timeJ_succ (W R : List Int) (T : List Nat) (j : Nat) : timeJ W R T (j + 1) = timeJ W R T j ++ [timeN W R T j] := by
  unfold timeJ; rw [List.range_succ, List.map_append]; rfl
theorem timeJ_at (W R : List Int) (T : List Nat) (n j : Nat) (h : j < n) : ((timeJ W R T n).map (Value.int .i64))[j]? = some (.int .i64 (timeN W R T j)) := by
  unfold timeJ; rw [List.map_map, List.getElem?_map, List.getElem?_range h]; rfl
theorem okT_at {W R S : List Int} (h : okT W R S = true) : okW W = true ∧ okR R = true ∧ isSh W.length R.length S = true := by
  unfold okT at h
  rw [Bool.and_eq_true, Bool.and_eq_true] at h
  exact ⟨h.1.1, h.1.2, h.2⟩
theorem okT_okWS {W R S : List Int} (h : okR R = true) : okT W R S = okWS W R.length S := by
  have hl := okR_len h
  unfold okT okWS okWP okP
  rw [h, decide_eq_true (by omega : (1 : Int) ≤ (R.length : Int) ∧ (R.length : Int) ≤ 5)]
theorem sh_len {n : Nat} {p : Int} {S : List Int} (h : isSh n p S = true) : (S.length : Int) = p := by
  obtain ⟨T, e, _, _, hp⟩ := isSh_nats h
  rw [e, List.length_map]; exact hp
theorem resT_len (W R S : List Int) : (resT W R S).length ≤ 1048576 := by
  unfold resT
  split
  · next h =>
    obtain ⟨_, h2, h3⟩ := okT_at h
    have := okR_len h2
    have := sh_len h3
    rw [timeJ_len]; omega
  · exact Nat.zero_le _
theorem workN_bd {W : List Int} (h : okW W = true) (T : List Nat) (k : Nat) : 0 ≤ workN W T k ∧ workN W T k ≤ 1200 := by
  unfold workN
  have hl := okW_len h
  have hx := okW_mem h
  have := sum_bound (L := (W.drop (posN T k)).take (T.getD k 0)) (M := 100) fun x hx' => by have := hx x (cut_mem hx'); omega
  have : ((W.drop (posN T k)).take (T.getD k 0)).length ≤ 12 := by rw [List.length_take, List.length_drop]; omega
  omega
theorem mul_bd {a b : Int} (h1 : 1 ≤ a) (h2 : a ≤ 20) (h3 : 0 ≤ b) (h4 : b ≤ 1200) : 0 ≤ a * b ∧ a * b ≤ 24000 := by
  constructor
  · exact Int.mul_nonneg (by omega) h3
  · exact Int.le_trans (Int.mul_le_mul h2 h4 h3 (by decide)) (by decide)

theorem mix_set (n j : Nat) (F G : Nat → Int) (h : j < n) : (((List.range n).map fun i => if i < j then F i else G i).map (Value.int .i64)).set j (.int .i64 (F j)) = ((List.range n).map fun i => if i < j + 1 then F i else G i).map (Value.int .i64) := by
  apply List.ext_getElem?
  intro i
  rw [List.getElem?_set, List.length_map, List.length_map, List.length_range, List.map_map, List.map_map, List.getElem?_map, List.getElem?_map]
  by_cases hi : i < n
  · rw [List.getElem?_range hi]
    by_cases e : j = i
    · subst e
      rw [if_pos rfl, if_pos hi]
      simp
    · rw [if_neg e]
      simp only [Option.map_some, Function.comp]
      by_cases h1 : i < j
      · rw [if_pos h1, if_pos (by omega)]
      · rw [if_neg h1, if_neg (by omega)]
  · rw [List.getElem?_eq_none (by rw [List.length_range]; omega)]
    by_cases e : j = i
    · omega
    · rw [if_neg e]; rfl

set_option maxRecDepth 20000 in
set_option maxHeartbeats 2000000 in
theorem implTimes_yes (A0 : Option Addr) (c0 : Nat) (L0 : List Int) (A1 : Option Addr) (c1 : Nat) (L1 : List Int) (A2 : Option Addr) (c2 : Nat) (L2 : List Int) (w : World) (q0 : L0.length ≤ c0) (h0 : IntSl w A0 L0) (h1 : IntSl w A1 L1) (h2 : IntSl w A2 L2) (hok : okT L0 L1 L2 = true) :
    Calls Try.prog 35 #[.slice A0 L0.length c0, .slice A1 L1.length c1, .slice A2 L2.length c2] w fun e w' => ∃ v, e = .returned (.tuple #[v, .bool true]) ∧ OwnInts w' w.heap.size 3 v (timeJ L0 L1 (L2.map Int.toNat) L2.length) ∧ Below w.heap.size w w' := by
  obtain ⟨hw, hr, hsh⟩ := okT_at hok
  have hrl := okR_len hr
  have hrx := Lib.hid (okR_mem hr)
  have hlen := sh_len hsh
  have HR := Lib.hid (implRates_any A1 c1 L1 w (by omega) h1)
  rw [hr] at HR
  rw [okT_okWS hr] at hok
  have HW := Lib.hid (implWork_yes A0 c0 L0 L1.length A2 c2 L2 w q0 h0 h2 hok)
  have HWB := Lib.hid (workN_bd hw)
  obtain ⟨T, hT⟩ : ∃ T, T = L2.map Int.toNat := ⟨_, rfl⟩
  rw [← hT] at HW ⊢
  have hl2 : L2.length = L1.length := by omega
  rw [hl2] at HW ⊢
  have HS1 := Lib.hid h1
  have hwl := workJ_len L0 T L1.length
  clear h0 h1 h2 hw hr hsh hok hT hlen hl2
  go_enter Try.func35, Try.ntmps35
  go_wp2_with (first
    | (go_at_call 33; refine HR.out.mono ?_; rintro e w1 ⟨rfl, rfl⟩)
    | (go_at_call 50; refine HW.out.mono ?_; rintro e w1 ⟨v, rfl, hown, hb⟩; unfold OwnInts at hown; rw [hwl] at hown; obtain ⟨g, cg, rfl, hg1, hg2⟩ := own_some hown (by omega)))
  have HF : Hid (OwnInts w1 w.heap.size 3 (.slice (some ⟨g, 0, none⟩) L1.length cg) ((List.range L1.length).map fun i => if i < 0 then timeN L0 L1 T i else workN L0 T i)) := Lib.hid (by
    have e : ((List.range L1.length).map fun i => if i < 0 then timeN L0 L1 T i else workN L0 T i) = workJ L0 T L1.length := rfl
    rw [e]; unfold OwnInts; rw [hwl]; exact hown)
  have HB := Lib.hid hb
  clear hown hb hwl
  go_loopw [10, 24] (fun _ i wr => ∃ j : Nat, j ≤ L1.length ∧ i = .int .i64 j ∧ OwnInts wr w.heap.size 3 (.slice (some ⟨g, 0, none⟩) L1.length cg) ((List.range L1.length).map fun i => if i < j then timeN L0 L1 T i else workN L0 T i) ∧ Below w.heap.size w wr) (fun _ i _ => L1.length - (intOf i).toNat)
  case atStart => exact ⟨0, Nat.zero_le _, rfl, HF.out, HB.out⟩
  case round =>
    clear HF HB
    obtain ⟨j, hj, rfl, hown, hb⟩ := hrel
    have HO := Lib.hid hown
    by_cases hlt : j < L1.length
    · have ho : wr.ownsRow w.heap.size 3 1 (.slice (some ⟨g, 0, none⟩) L1.length cg) L1.length (((List.range L1.length).map fun i => if i < j then timeN L0 L1 T i else workN L0 T i).map (Value.int .i64)) := by
        have := hown
        unfold OwnInts at this
        rw [List.length_map, List.length_range] at this
        exact this
      have d1 : wr.cell? ⟨g, j, none⟩ = some (.int .i64 (workN L0 T j)) := by
        rw [ho.cellAt j (by omega), List.map_map, List.getElem?_map, List.getElem?_range hlt]
        simp
      have f1 := ho.frozenAt j
      obtain ⟨g1, o1, rfl, hg1', hat1⟩ := (HS1.out.below hb).some (by omega)
      have d2 := hat1 j hlt
      obtain ⟨r1, r2⟩ := hrx.out L1[j] (List.getElem_mem hlt)
      obtain ⟨b1, b2⟩ := HWB.out T j
      have HST := Lib.hid (ho.stored j (.int .i64 (timeN L0 L1 T j)))
      have HE : Hid (timeN L0 L1 T j = workN L0 T j * L1[j]) := Lib.hid (by unfold timeN; rw [getD_lt L1 j hlt, Int.mul_comm])
      obtain ⟨r, hr⟩ : ∃ r, r = L1[j] := ⟨_, rfl⟩
      obtain ⟨x, hx⟩ : ∃ x, x = workN L0 T j := ⟨_, rfl⟩
      rw [← hr] at d2 r1 r2 HE
      rw [← hx] at d1 b1 b2 HE
      obtain ⟨m1, m2⟩ := mul_bd r1 r2 b1 b2
      rw [Int.mul_comm] at m1 m2
      have hj0 : (0 : Int) ≤ (j : Int) := by omega
      have hj1 : (j : Int) < (L1.length : Int) := by omega
      have HBN := Lib.hid hb
      have HG := Lib.hid hg1
      clear hat1 hr hx hown ho hb
      go_wp2
      go_region
      go_wp2
      go_roundw
      case rel =>
        refine ⟨j + 1, by omega, by go_num, ?_, ?_⟩
        · have h1 := HST.out.1
          rw [mix_set L1.length j _ _ hlt, HE.out] at h1
          unfold OwnInts
          rw [List.length_map, List.length_range]
          exact World.ownsRow.drew h1
        · exact (below_store HBN.out HG.out j _).drew
      case measure => simp [intOf]; omega
    · obtain rfl : j = L1.length := by omega
      have HV : Hid (OwnInts wr w.heap.size 3 (.slice (some ⟨g, 0, none⟩) L1.length cg) (timeJ L0 L1 T L1.length)) := Lib.hid (by
        have e : ((List.range L1.length).map fun i => if i < L1.length then timeN L0 L1 T i else workN L0 T i) = timeJ L0 L1 T L1.length := List.map_congr_left fun i hi => by rw [if_pos (List.mem_range.1 hi)]
        rw [← e]; exact hown)
      go_wp2
      go_ret2
      exact ⟨_, rfl, HV.out, hb⟩

theorem implTimesOf_any (A0 : Option Addr) (c0 : Nat) (L0 : List Int) (A1 : Option Addr) (c1 : Nat) (L1 : List Int) (A2 : Option Addr) (c2 : Nat) (L2 : List Int) (w : World) (l0 : L0.length ≤ 1048576) (f0 : WfL L0) (q0 : L0.length ≤ c0) (h0 : IntSl w A0 L0) (l1 : L1.length ≤ 1048576) (_ : WfL L1) (_ : L1.length ≤ c1) (h1 : IntSl w A1 L1) (l2 : L2.length ≤ 1048576) (f2 : WfL L2) (q2 : L2.length ≤ c2) (h2 : IntSl w A2 L2) :
    Calls Try.prog 35 #[.slice A0 L0.length c0, .slice A1 L1.length c1, .slice A2 L2.length c2] w fun e w' => ∃ v, e = .returned (.tuple #[v, .bool (okT L0 L1 L2)]) ∧ OwnInts w' w.heap.size 3 v (resT L0 L1 L2) ∧ Below w.heap.size w w' := by
  cases hok : okT L0 L1 L2
  · rw [show resT L0 L1 L2 = [] by unfold resT; rw [hok]; rfl]
    have HR := Lib.hid (implRates_any A1 c1 L1 w l1 h1)
    cases hr : okR L1
    · rw [hr] at HR
      clear hok hr
      go_enter Try.func35, Try.ntmps35
      go_wp2_with (go_at_call 33; refine HR.out.mono ?_; rintro e w1 ⟨rfl, rfl⟩)
      go_ret2
      exact ⟨_, rfl, OwnInts.nil _ _ _, Below.refl _ _⟩
    · rw [hr] at HR
      have hrl := okR_len hr
      rw [okT_okWS hr] at hok
      have HW := Lib.hid (implWorkOf_any A0 c0 L0 L1.length A2 c2 L2 w l0 f0 q0 h0 (wf64_mk (by omega) (by omega)) l2 f2 q2 h2)
      rw [hok, show resW L0 L1.length L2 = [] by unfold resW; rw [hok]; rfl] at HW
      clear hok hr
      go_enter Try.func35, Try.ntmps35
      go_wp2_with (first
        | (go_at_call 33; refine HR.out.mono ?_; rintro e w1 ⟨rfl, rfl⟩)
        | (go_at_call 50; refine HW.out.mono ?_; rintro e w1 ⟨v, rfl, hown, hb⟩; have HV := Lib.hid hown; obtain ⟨A, c, rfl⟩ := hown.len; clear hown))
      refine wp_loop_rounds 1 ?_
      rw [rounds_succ]
      go_wp2
      go_ret2
      exact ⟨_, rfl, HV.out, hb⟩
  · rw [show resT L0 L1 L2 = timeJ L0 L1 (L2.map Int.toNat) L2.length by unfold resT; rw [if_pos hok]]
    exact implTimes_yes A0 c0 L0 A1 c1 L1 A2 c2 L2 w q0 h0 h1 h2 hok

theorem shRated_any (A0 : Option Addr) (c0 : Nat) (L0 : List Int) (A1 : Option Addr) (c1 : Nat) (L1 : List Int) (w : World) (l0 : L0.length ≤ 1048576) (h0 : IntSl w A0 L0) (l1 : L1.length ≤ 1048576) (h1 : IntSl w A1 L1) :
    Calls Try.prog 77 #[.slice A0 L0.length c0, .slice A1 L1.length c1] w fun e w' => e = .returned (.bool (okW L0 && okR L1)) ∧ w = w' := by
  have HW := Lib.hid fun W h => shWidths_any A0 c0 L0 W l0 h
  cases hw : okW L0
  · rw [hw] at HW
    clear hw
    go_enter Try.func77, Try.ntmps77
    go_wp2_with (go_at_call 104; refine (HW.out _ h0).mono ?_; rintro e w1 ⟨rfl, rfl⟩)
    go_ret
    exact ⟨rfl, rfl⟩
  · rw [hw] at HW
    clear hw
    go_enter Try.func77, Try.ntmps77
    go_wp2_with (first
      | (go_at_call 104; refine (HW.out _ h0).mono ?_; rintro e w1 ⟨rfl, rfl⟩)
      | (go_at_call 94; refine (shRates_any A1 c1 L1 _ l1 h1).mono ?_; rintro e w1 ⟨rfl, rfl⟩))
    go_ret
    exact ⟨rfl, rfl⟩

set_option maxRecDepth 20000 in
set_option maxHeartbeats 2000000 in
theorem specTimes_yes (A0 : Option Addr) (c0 : Nat) (L0 : List Int) (A1 : Option Addr) (c1 : Nat) (L1 : List Int) (A2 : Option Addr) (c2 : Nat) (L2 : List Int) (w : World) (q0 : L0.length ≤ c0) (h0 : IntSl w A0 L0) (h1 : IntSl w A1 L1) (h2 : IntSl w A2 L2) (hok : okT L0 L1 L2 = true) :
    Calls Try.prog 42 #[.slice A0 L0.length c0, .slice A1 L1.length c1, .slice A2 L2.length c2] w fun e w' => ∃ v, e = .returned (.tuple #[v, .bool true]) ∧ OwnInts w' w.heap.size 3 v (timeJ L0 L1 (L2.map Int.toNat) L2.length) ∧ Below w.heap.size w w' := by
  obtain ⟨i0, hi, hz0, hz1, hz2⟩ := info_parts info_int
  obtain ⟨hw, hr, hsh⟩ := okT_at hok
  have hrl := okR_len hr
  have hwl0 := okW_len hw
  have hrx := Lib.hid (okR_mem hr)
  have hlen := sh_len hsh
  have HR := Lib.hid (shRated_any A0 c0 L0 A1 c1 L1 w (by omega) h0 (by omega) h1)
  rw [hw, hr, Bool.true_and] at HR
  have HI := Lib.hid (shIs_any A0 c0 L0.length L1.length A2 c2 L2 w hwl0.2 (by omega) h2 (by omega))
  rw [hsh] at HI
  have HWB := Lib.hid (workN_bd hw)
  obtain ⟨T, e, hs, hT, -⟩ := isSh_nats hsh
  have hTL : L2.length = T.length := by rw [e, List.length_map]
  have hl2 : L2.length = L1.length := by omega
  have hTL1 : T.length = L1.length := by omega
  have HW : Hid (Calls Try.prog 99 #[.slice A0 L0.length c0, .slice A2 L2.length c2] w fun e w' => ∃ v, e = .returned v ∧ OwnInts w' w.heap.size 3 v (workJ L0 T L1.length) ∧ Below w.heap.size w w') := Lib.hid (by
    rw [hTL, ← hTL1]
    exact shWork_any A0 c0 L0 A2 c2 T w hw q0 (by omega) hs h0 (by rw [← e]; exact h2))
  rw [hT]
  rw [hl2] at HW HI ⊢
  have HS1 := Lib.hid h1
  have hwl := workJ_len L0 T L1.length
  clear h0 h1 h2 hw hr hsh hok hT hlen hl2 e hs hTL hTL1
  go_enter Try.func42, Try.ntmps42
  go_wp2_with (first
    | (go_at_call 77; refine HR.out.mono ?_; rintro e w1 ⟨rfl, rfl⟩)
    | (go_at_call 98; refine HI.out.mono ?_; rintro e w1 ⟨rfl, rfl⟩)
    | (go_at_call 99; refine HW.out.mono ?_; rintro e w1 ⟨v, rfl, hown, hb⟩; unfold OwnInts at hown; rw [hwl] at hown; obtain ⟨g, cg, rfl, hg1, hg2⟩ := own_some hown (by omega)))
  have HWK : Hid (∀ wr, Below w1.heap.size w1 wr → ∀ j, j < L1.length → wr.cell? ⟨g, j, none⟩ = some (.int .i64 (workN L0 T j))) := Lib.hid fun wr hbr j hj => by
    rw [(own_below hown hbr).cellAt j (by omega), workJ_at L0 T L1.length j hj]
  have HB := Lib.hid hb
  have hsz := hb.size
  clear hown hb hwl
  go_loopw [8, 9, 10, 27] (fun v _ _ i wr => ∃ j : Nat, j ≤ L1.length ∧ i = .int .i64 j ∧ OwnInts wr w1.heap.size 3 v (timeJ L0 L1 T j) ∧ Below w1.heap.size w1 wr) (fun _ _ _ i _ => L1.length - (intOf i).toNat)
  case atStart => exact ⟨0, Nat.zero_le _, rfl, OwnInts.nil _ _ _, Below.refl _ _⟩
  case round =>
    obtain ⟨j, hj, rfl, hown, hb⟩ := hrel
    have HO := Lib.hid hown
    clear hown
    by_cases hlt : j < L1.length
    · have d1 := HWK.out wr hb j hlt
      obtain ⟨g1, o1, rfl, hg1', hat1⟩ := (HS1.out.below (below_next HB.out hb)).some (by omega)
      have d2 := hat1 j hlt
      obtain ⟨r1, r2⟩ := hrx.out L1[j] (List.getElem_mem hlt)
      obtain ⟨b1, b2⟩ := HWB.out T j
      have HE : Hid (timeN L0 L1 T j = L1[j] * workN L0 T j) := Lib.hid (by unfold timeN; rw [getD_lt L1 j hlt])
      have HN := Lib.hid (timeJ_succ L0 L1 T j)
      have hlen := timeJ_len L0 L1 T j
      obtain ⟨r, hr⟩ : ∃ r, r = L1[j] := ⟨_, rfl⟩
      obtain ⟨x, hx⟩ : ∃ x, x = workN L0 T j := ⟨_, rfl⟩
      rw [← hr] at d2 r1 r2 HE
      rw [← hx] at d1 b1 b2 HE
      obtain ⟨m1, m2⟩ := mul_bd r1 r2 b1 b2
      have hj0 : (0 : Int) ≤ (j : Int) := by omega
      have hj1 : (j : Int) < (L1.length : Int) := by omega
      have hbs := hb.size
      have HBN := Lib.hid hb
      clear hat1 hr hx hb
      go_wp2_with (at_builtin; refine wpList_append_own _ rfl (.tmp 32) (.tmp 39) _ rfl w1.heap.size 3 i0 _ 1 8 Try.underlying24 hi hz0 hz1 hz2 rfl (by decide) _ (timeJ L0 L1 T j).length ((timeJ L0 L1 T j).map (Value.int .i64)) rfl (World.ownsRow.alloc HO.out _) ⟨_, 0, none⟩ 1 1 [.int .i64 (r * x)] rfl rfl (World.news_of_block (cs := #[.int .i64 (r * x)]) (t := 3) (fr := (0, 0)) (heap_alloc_new _ _)) (by simp [Value.oneCell']) (by unfold maxLen; omega) (by omega) (by simp; omega) ?_; intro v' w3 hown' hgrow _)
      have HR : Hid (OwnInts w3 w1.heap.size 3 v' (timeJ L0 L1 T (j + 1))) := Lib.hid (by rw [HN.out, HE.out]; exact OwnInts.snoc hown')
      have HB3 : Hid (Below w1.heap.size w1 w3) := Lib.hid ((HBN.out.alloc hbs _).grown hgrow (by simp; omega) fun k hk => (World.ownsRow.lt HO.out k hk).1)
      clear hown' hgrow
      go_roundw
      case rel => exact ⟨j + 1, by omega, by go_num, HR.out, HB3.out⟩
      case measure => simp [intOf]; omega
    · obtain rfl : j = L1.length := by omega
      go_wp2
      go_ret2
      exact ⟨_, rfl, HO.out.mono hsz, below_next HB.out hb⟩

theorem specTimesOf_any (A0 : Option Addr) (c0 : Nat) (L0 : List Int) (A1 : Option Addr) (c1 : Nat) (L1 : List Int) (A2 : Option Addr) (c2 : Nat) (L2 : List Int) (w : World) (l0 : L0.length ≤ 1048576) (_ : WfL L0) (q0 : L0.length ≤ c0) (h0 : IntSl w A0 L0) (l1 : L1.length ≤ 1048576) (_ : WfL L1) (_ : L1.length ≤ c1) (h1 : IntSl w A1 L1) (l2 : L2.length ≤ 1048576) (_ : WfL L2) (_ : L2.length ≤ c2) (h2 : IntSl w A2 L2) :
    Calls Try.prog 42 #[.slice A0 L0.length c0, .slice A1 L1.length c1, .slice A2 L2.length c2] w fun e w' => ∃ v, e = .returned (.tuple #[v, .bool (okT L0 L1 L2)]) ∧ OwnInts w' w.heap.size 3 v (resT L0 L1 L2) ∧ Below w.heap.size w w' := by
  cases hok : okT L0 L1 L2
  · rw [show resT L0 L1 L2 = [] by unfold resT; rw [hok]; rfl]
    have HR := Lib.hid (shRated_any A0 c0 L0 A1 c1 L1 w l0 h0 l1 h1)
    cases hr : okW L0 && okR L1
    · rw [hr] at HR
      clear hok hr
      go_enter Try.func42, Try.ntmps42
      go_wp2_with (go_at_call 77; refine HR.out.mono ?_; rintro e w1 ⟨rfl, rfl⟩)
      go_ret2
      exact ⟨_, rfl, OwnInts.nil _ _ _, Below.refl _ _⟩
    · rw [hr] at HR
      have hr2 := hr
      rw [Bool.and_eq_true] at hr2
      have hwl := okW_len hr2.1
      have hrl := okR_len hr2.2
      have HI := Lib.hid (shIs_any A0 c0 L0.length L1.length A2 c2 L2 w hwl.2 (by omega) h2 l2)
      unfold okT at hok
      rw [hr, Bool.true_and] at hok
      rw [hok] at HI
      clear hok hr hr2
      go_enter Try.func42, Try.ntmps42
      go_wp2_with (first
        | (go_at_call 77; refine HR.out.mono ?_; rintro e w1 ⟨rfl, rfl⟩)
        | (go_at_call 98; refine HI.out.mono ?_; rintro e w1 ⟨rfl, rfl⟩))
      go_ret2
      exact ⟨_, rfl, OwnInts.nil _ _ _, Below.refl _ _⟩
  · rw [show resT L0 L1 L2 = timeJ L0 L1 (L2.map Int.toNat) L2.length by unfold resT; rw [if_pos hok]]
    exact specTimes_yes A0 c0 L0 A1 c1 L1 A2 c2 L2 w q0 h0 h1 h2 hok
end Go.Proofs.Yteiaidjknnbpjaa

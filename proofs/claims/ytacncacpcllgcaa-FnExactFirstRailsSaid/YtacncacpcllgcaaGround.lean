/- SquaresOfRails of both sides. No condition but the lists' lengths. -/
import Derived.Test.YtacncacpcllgcaaRails
namespace Go.Proofs.Ytacncacpcllgcaa
open Go.RowKit

def okGL (L : List Int) (a : Int) : Bool := okG L && okL a
theorem okGL_at {L : List Int} {a : Int} (h : okGL L a = true) : okG L = true ∧ okL a = true := by
  unfold okGL at h; rwa [Bool.and_eq_true] at h
/-- the square of the rail behind a post -/
def sqK (L : List Int) (g : Nat) (k : Nat) : Int := (g : Int) * (g : Int) + (L.getD (k + 1) 0 - L.getD k 0) * (L.getD (k + 1) 0 - L.getD k 0)
def sqJ (L : List Int) (g j : Nat) : List Int := (List.range j).map (sqK L g)
theorem sqJ_len (L : List Int) (g j : Nat) : (sqJ L g j).length = j := by simp [sqJ]
theorem sqJ_succ (L : List Int) (g j : Nat) : sqJ L g (j + 1) = sqJ L g j ++ [sqK L g j] := by
  unfold sqJ; rw [List.range_succ, List.map_append]; rfl
theorem sqJ_at (L : List Int) (g n j : Nat) (h : j < n) : ((sqJ L g n).map (Value.int .i64))[j]? = some (.int .i64 (sqK L g j)) := by
  unfold sqJ; rw [List.map_map, List.getElem?_map, List.getElem?_range h]; rfl
theorem sq_bd {x : Int} (h1 : -50 ≤ x) (h2 : x ≤ 50) : 0 ≤ x * x ∧ x * x ≤ 2500 := by
  rcases Int.le_total 0 x with h | h
  · exact ⟨Int.mul_nonneg h h, Int.le_trans (Int.mul_le_mul h2 h2 h (by decide)) (by decide)⟩
  · have e : x * x = (-x) * (-x) := by rw [Int.neg_mul_neg]
    rw [e]
    exact ⟨Int.mul_nonneg (by omega) (by omega), Int.le_trans (Int.mul_le_mul (a := -x) (b := -x) (c := 50) (d := 50) (by omega) (by omega) (by omega) (by decide)) (by decide)⟩
theorem gap_bd {g : Nat} (h1 : 1 ≤ g) (h2 : g ≤ 500) : 1 ≤ (g : Int) * (g : Int) ∧ (g : Int) * (g : Int) ≤ 250000 := by
  have a := Nat.mul_le_mul h1 h1
  have b := Nat.mul_le_mul h2 h2
  have e : ((g * g : Nat) : Int) = (g : Int) * (g : Int) := Int.natCast_mul _ _
  omega
theorem sqK_bd {L : List Int} {g k : Nat} (hg : 1 ≤ g) (hg2 : g ≤ 500) (hx : ∀ x ∈ L, 0 ≤ x ∧ x ≤ 50) (hk : k + 1 < L.length) : 1 ≤ sqK L g k ∧ sqK L g k ≤ 252500 := by
  unfold sqK
  rw [getD_lt L (k + 1) hk, getD_lt L k (by omega)]
  have h1 := hx L[k] (List.getElem_mem _)
  have h2 := hx L[k + 1] (List.getElem_mem _)
  have h3 := sq_bd (x := L[k + 1] - L[k]) (by omega) (by omega)
  have h4 := gap_bd hg hg2
  omega
def sqL (L : List Int) (a : Int) : List Int := if okGL L a = true then sqJ L a.toNat (L.length - 1) else []
theorem sqL_no {L : List Int} {a : Int} (h : okGL L a = false) : sqL L a = [] := by unfold sqL; rw [h]; rfl
theorem sqL_yes {L : List Int} {g : Nat} (h : okGL L g = true) : sqL L g = sqJ L g (L.length - 1) := by unfold sqL; rw [if_pos h, Int.toNat_natCast]
theorem sqL_len (L : List Int) (a : Int) : (sqL L a).length ≤ 1048576 := by
  unfold sqL
  split
  · next h => have := (okG_at (okGL_at h).1).1; rw [sqJ_len]; omega
  · exact Nat.zero_le _

set_option maxRecDepth 20000 in
set_option maxHeartbeats 2000000 in
theorem implSquaresOfRails_any (A0 : Option Addr) (c0 : Nat) (L0 : List Int) (a1 : Int) (w : World) (l0 : L0.length ≤ 1048576) (_ : WfL L0) (_ : L0.length ≤ c0) (h0 : IntSl w A0 L0) (_ : (Lit.int .i64 a1).wf = true) :
    Calls Try.prog 63 #[.slice A0 L0.length c0, .int .i64 a1] w fun e w' => ∃ v, e = .returned (.tuple #[v, .bool (okGL L0 a1)]) ∧ OwnInts w' w.heap.size 3 v (sqL L0 a1) ∧ Below w.heap.size w w' := by
  obtain ⟨i0, hi, hz0, hz1, hz2⟩ := info_parts info_int
  have HG := Lib.hid (isGround_any A0 c0 L0 w l0 h0)
  have HA := Lib.hid fun W A h => areL1_any a1 W A h
  have H2 := Lib.hid (one_sl w a1 3)
  have HB := Lib.hid (below_new w (.cells #[.int .i64 a1] 3))
  cases hg : okG L0
  · have hok : okGL L0 a1 = false := by unfold okGL; rw [hg]; rfl
    rw [sqL_no hok, hok]
    rw [hg] at HG
    clear hok hg HA
    go_enter Try.func63, Try.ntmps63
    go_wp2_with fail
    refine HG.out.mono ?_
    rintro e w1 ⟨rfl, rfl⟩
    go_wp2
    go_ret2
    exact ⟨_, rfl, OwnInts.nil _ _ _, Below.refl _ _⟩
  · cases ha : okL a1
    · have hok : okGL L0 a1 = false := by unfold okGL; rw [hg, ha]; rfl
      rw [sqL_no hok, hok]
      rw [hg] at HG
      rw [ha] at HA
      clear hok hg ha
      go_enter Try.func63, Try.ntmps63
      go_wp2_with fail
      refine HG.out.mono ?_
      rintro e w1 ⟨rfl, rfl⟩
      go_wp2_with fail
      refine (HA.out _ _ H2.out).mono ?_
      rintro e w1 ⟨rfl, rfl⟩
      go_wp2
      go_ret2
      exact ⟨_, rfl, OwnInts.nil _ _ _, HB.out⟩
    · have hok : okGL L0 a1 = true := by unfold okGL; rw [hg, ha]; rfl
      rw [hg] at HG
      rw [ha] at HA
      obtain ⟨g, rfl, g1, g2⟩ := okL_nat ha
      rw [sqL_yes hok, hok]
      obtain ⟨⟨hl1, hl2⟩, hx⟩ := okG_at hg
      have HX := Lib.hid hx
      obtain ⟨n, hn⟩ : ∃ n, n = L0.length - 1 := ⟨_, rfl⟩
      rw [← hn]
      have HN : Hid (L0.length = n + 1) := Lib.hid (by omega)
      have hn1 : 1 ≤ n := by omega
      have hn2 : n ≤ 11 := by omega
      have hLn : (L0.length : Int) - 1 = (n : Int) := by omega
      have HLn : Hid ((L0.length : Int) = (n : Int) + 1) := Lib.hid (by omega)
      have hgg := gap_bd g1 g2
      have H0 := Lib.hid h0
      clear hok hg ha hx hn hl1 hl2 h0
      go_enter Try.func63, Try.ntmps63
      go_wp2_with fail
      refine HG.out.mono ?_
      rintro e w1 ⟨rfl, rfl⟩
      go_wp2_with fail
      refine (HA.out _ _ H2.out).mono ?_
      rintro e w1 ⟨rfl, rfl⟩
      have hbs := HB.out.size
      obtain ⟨W1, hW1⟩ : ∃ W1, W1 = w.alloc (.cells #[.int .i64 (g : Int)] 3) := ⟨_, rfl⟩
      rw [← hW1] at HB hbs H2 ⊢
      clear H2 hW1
      go_wp2_with (at_make; refine wpList_make_full _ rfl (.tmp 20) (.tmp 20) _ rfl W1.heap.size 3 i0 _ 1 Try.underlying26 hi hz0 hz1 .i64 .i64 _ _ n rfl rfl rfl rfl (by rw [hz2]; omega) (by unfold maxLen; omega) (Nat.le_refl _) ?_; intro w2 hown hgrow)
      have HFi : Hid (Filled W1 W1.heap.size 3 1 (.slice (some ⟨W1.heap.size, 0, none⟩) n n) n ((sqJ L0 g n).map (Value.int .i64)) 0 w2) := Lib.hid (Filled.made hown ((Below.refl _ _).grown hgrow (Nat.le_refl _) (fun k hk => by cases hk)))
      clear hown hgrow hLn
      go_loopw [7, 8, 24] (fun _ _ i wr => ∃ j : Nat, j ≤ n ∧ i = .int .i64 j ∧ Filled W1 W1.heap.size 3 1 (.slice (some ⟨W1.heap.size, 0, none⟩) n n) n ((sqJ L0 g n).map (Value.int .i64)) j wr) (fun _ _ i _ => n - (intOf i).toNat)
      case atStart => exact ⟨0, Nat.zero_le _, rfl, HFi.out⟩
      case round =>
        clear HFi
        obtain ⟨j, hj, rfl, hf⟩ := hrel
        have HF1 := Lib.hid hf
        clear hf
        by_cases hjt : j < n
        · have hL0 := HN.out
          obtain ⟨g0, o0, rfl, hg0, hat0⟩ := (H0.out.below (below_next HB.out HF1.out.below0)).some (by omega)
          have e1 := hat0 j (by omega)
          have e2 := hat0 (j + 1) (by omega)
          have b1 := HX.out L0[j] (List.getElem_mem _)
          have b2 := HX.out L0[j + 1] (List.getElem_mem _)
          have b3 := sq_bd (x := L0[j + 1] - L0[j]) (by omega) (by omega)
          obtain ⟨⟨u1, d1⟩, f1⟩ := HF1.out.cell j (by omega)
          have K1 := Lib.hid (sqJ_at L0 g n j hjt)
          have HK : Hid (sqK L0 g j = (g : Int) * (g : Int) + (L0[j + 1] - L0[j]) * (L0[j + 1] - L0[j])) := Lib.hid (by
            unfold sqK; rw [getD_lt L0 (j + 1) (by omega), getD_lt L0 j (by omega)])
          rw [HK.out] at K1
          obtain ⟨x, hxx⟩ : ∃ x, x = L0[j] := ⟨_, rfl⟩
          obtain ⟨y, hyy⟩ : ∃ y, y = L0[j + 1] := ⟨_, rfl⟩
          rw [← hxx] at e1 b1 b3 K1
          rw [← hyy] at e2 b2 b3 K1
          have hj0 : (0 : Int) ≤ (j : Int) := by omega
          have hj1 : (j : Int) < (n : Int) := by omega
          have hj2 : (j : Int) < (L0.length : Int) := by omega
          obtain ⟨j1, hj1'⟩ : ∃ j1, j1 = j + 1 := ⟨_, rfl⟩
          rw [← hj1'] at e2
          have hj3 : (j1 : Int) < (L0.length : Int) := by omega
          have hj4 : (0 : Int) ≤ (j1 : Int) := by omega
          have HJ1 := Lib.hid hj1'
          have k1 : IntKind.i64.wrap ((j : Int) + 1) = (j1 : Int) := by rw [IntKind.wrap_i64]; omega
          have k2 : IntKind.i64.wrap (y - x) = y - x := by rw [IntKind.wrap_i64]; omega
          clear hat0 hxx hyy HK hL0 hj1'
          go_wp2
          go_quiet (fail)
          go_wp2
          go_roundw
          case rel =>
            obtain rfl := HJ1.out
            exact ⟨j + 1, by omega, by go_num, (HF1.out.below (below_drewN (Below.refl _ _) nq) (Nat.le_refl _)).step (by omega) (Nat.le_refl _) K1.out⟩
          case measure =>
            obtain rfl := HJ1.out
            simp [intOf]; omega
        · obtain rfl : j = n := by omega
          have HA2 := Lib.hid (Filled.all (by rw [Nat.mul_one]; exact HF1.out) (by rw [List.length_map, sqJ_len, Nat.mul_one]))
          have HV : Hid (OwnInts wr w.heap.size 3 (.slice (some ⟨W1.heap.size, 0, none⟩) j j) (sqJ L0 g j)) := Lib.hid (by
            refine OwnInts.mono ?_ hbs
            unfold OwnInts; rw [sqJ_len]; exact HA2.out.1)
          go_wp2
          go_ret2
          exact ⟨_, rfl, HV.out, below_next HB.out HA2.out.2⟩

set_option maxRecDepth 20000 in
set_option maxHeartbeats 2000000 in
theorem poSquares_any (A0 : Option Addr) (c0 : Nat) (L0 : List Int) (g : Nat) (w : World) (hok : okG L0 = true) (g1 : 1 ≤ g) (g2 : g ≤ 500) (h0 : IntSl w A0 L0) :
    Calls Try.prog 109 #[.slice A0 L0.length c0, .int .i64 g] w fun e w' => ∃ v, e = .returned v ∧ OwnInts w' w.heap.size 3 v (sqJ L0 g (L0.length - 1)) ∧ Below w.heap.size w w' := by
  obtain ⟨i0, hi, hz0, hz1, hz2⟩ := info_parts info_int
  obtain ⟨⟨hl1, hl2⟩, hx⟩ := okG_at hok
  have HX := Lib.hid hx
  have hgg := gap_bd g1 g2
  have H0 := Lib.hid h0
  clear hok hx h0
  go_enter Try.func109, Try.ntmps109
  go_wp2
  go_loopw [5, 6, 7] (fun v i _ wr => ∃ j : Nat, 1 ≤ j ∧ j ≤ L0.length ∧ i = .int .i64 j ∧ OwnInts wr w.heap.size 3 v (sqJ L0 g (j - 1)) ∧ Below w.heap.size w wr) (fun _ i _ _ => L0.length - (intOf i).toNat)
  case atStart => exact ⟨1, Nat.le_refl _, by omega, rfl, OwnInts.nil _ _ _, Below.refl _ _⟩
  case round =>
    obtain ⟨j, hj1, hj, rfl, hown, hb⟩ := hrel
    have HO := Lib.hid hown
    clear hown
    have hlen := sqJ_len L0 g (j - 1)
    by_cases hlt : j < L0.length
    · obtain ⟨k, rfl⟩ : ∃ k, j = k + 1 := ⟨j - 1, by omega⟩
      rw [Nat.add_sub_cancel] at HO hlen
      obtain ⟨g0, o0, rfl, hg0, hat0⟩ := (H0.out.below hb).some (by omega)
      have e1 := hat0 k (by omega)
      have e2 := hat0 (k + 1) hlt
      have b1 := HX.out L0[k] (List.getElem_mem _)
      have b2 := HX.out L0[k + 1] (List.getElem_mem _)
      have b3 := sq_bd (x := L0[k + 1] - L0[k]) (by omega) (by omega)
      have HK : Hid (sqJ L0 g (k + 1) = sqJ L0 g k ++ [(g : Int) * (g : Int) + (L0[k + 1] - L0[k]) * (L0[k + 1] - L0[k])]) := Lib.hid (by
        rw [sqJ_succ]; unfold sqK; rw [getD_lt L0 (k + 1) hlt, getD_lt L0 k (by omega)])
      obtain ⟨x, hxx⟩ : ∃ x, x = L0[k] := ⟨_, rfl⟩
      obtain ⟨y, hyy⟩ : ∃ y, y = L0[k + 1] := ⟨_, rfl⟩
      rw [← hxx] at e1 b1 b3 HK
      rw [← hyy] at e2 b2 b3 HK
      obtain ⟨j, hjk⟩ : ∃ j, j = k + 1 := ⟨_, rfl⟩
      rw [← hjk] at e2 hlt ⊢
      have HJ := Lib.hid hjk
      have hj0 : (1 : Int) ≤ (j : Int) := by omega
      have hj2 : (j : Int) < (L0.length : Int) := by omega
      have k1 : IntKind.i64.wrap ((j : Int) - 1) = (k : Int) := by rw [IntKind.wrap_i64]; omega
      have k2 : IntKind.i64.wrap (y - x) = y - x := by rw [IntKind.wrap_i64]; omega
      have kn : (0 : Int) ≤ (k : Int) := by omega
      have kl : (k : Int) < (L0.length : Int) := by omega
      have hbs := hb.size
      clear hat0 hxx hyy hjk
      go_wp2
      go_quiet (fail)
      have HOD := Lib.hid (own_below HO.out (below_drewN (Below.refl _ _) nq))
      go_wp2_with (at_builtin; refine wpList_append_own _ rfl (.tmp 24) (.tmp 32) _ rfl w.heap.size 3 i0 _ 1 8 Try.underlying26 hi hz0 hz1 hz2 rfl (by decide) _ (sqJ L0 g k).length ((sqJ L0 g k).map (Value.int .i64)) rfl (World.ownsRow.alloc HOD.out _) ⟨_, 0, none⟩ 1 1 [.int .i64 ((g : Int) * (g : Int) + (y - x) * (y - x))] rfl rfl (World.news_of_block (cs := #[.int .i64 ((g : Int) * (g : Int) + (y - x) * (y - x))]) (t := 3) (fr := (0, 0)) (heap_alloc_new _ _)) (by simp [Value.oneCell']) (by unfold maxLen; omega) (by omega) (by simp; omega) ?_; intro v' w3 hown' hgrow _)
      have HR : Hid (OwnInts w3 w.heap.size 3 v' (sqJ L0 g j)) := Lib.hid (by rw [HJ.out, HK.out]; exact OwnInts.snoc hown')
      have HB3 : Hid (Below w.heap.size w w3) := Lib.hid (((below_drewN hb nq).alloc hbs _).grown hgrow (by simp; omega) fun k hk => (World.ownsRow.lt HO.out k hk).1)
      clear hown' hgrow
      go_wp2
      go_roundw
      case rel => exact ⟨j + 1, by omega, by omega, by go_num, by rw [Nat.add_sub_cancel]; exact HR.out, HB3.out⟩
      case measure => simp [intOf]; omega
    · obtain rfl : j = L0.length := by omega
      go_wp2
      go_ret
      exact ⟨_, rfl, HO.out, hb⟩

set_option maxHeartbeats 1000000 in
theorem specSquaresOfRails_no (A0 : Option Addr) (c0 : Nat) (L0 : List Int) (a1 : Int) (w : World) (l0 : L0.length ≤ 1048576) (h0 : IntSl w A0 L0) (hok : (okG L0 && okL a1) = false) :
    Calls Try.prog 62 #[.slice A0 L0.length c0, .int .i64 a1] w fun e w' => e = .returned (.tuple #[.slice none 0 0, .bool false]) ∧ Below w.heap.size w w' := by
  have H0 := Lib.hid (poGround_any A0 c0 L0 w l0 h0)
  have H1 := Lib.hid (poLong_any a1 w)
  cases h0 : okG L0
  · clear hok
    rw [h0] at H0
    clear h0 H1
    go_enter Try.func62, Try.ntmps62
    go_wp2_with fail
    refine H0.out.mono ?_
    rintro e w1 ⟨rfl, rfl⟩
    go_wp2
    go_ret2
    exact ⟨rfl, Below.refl _ _⟩
  · skip
    cases h1 : okL a1
    · clear hok
      rw [h0] at H0
      rw [h1] at H1
      clear h0 h1
      go_enter Try.func62, Try.ntmps62
      go_wp2_with fail
      refine H0.out.mono ?_
      rintro e w1 ⟨rfl, rfl⟩
      go_wp2_with fail
      refine H1.out.mono ?_
      rintro e w1 ⟨rfl, rfl⟩
      go_wp2
      go_ret2
      exact ⟨rfl, Below.refl _ _⟩
    · rw [h0, h1] at hok; simp at hok
set_option maxRecDepth 20000 in
set_option maxHeartbeats 2000000 in
theorem specSquaresOfRails_any (A0 : Option Addr) (c0 : Nat) (L0 : List Int) (a1 : Int) (w : World) (l0 : L0.length ≤ 1048576) (_ : WfL L0) (_ : L0.length ≤ c0) (h0 : IntSl w A0 L0) (_ : (Lit.int .i64 a1).wf = true) :
    Calls Try.prog 62 #[.slice A0 L0.length c0, .int .i64 a1] w fun e w' => ∃ v, e = .returned (.tuple #[v, .bool (okGL L0 a1)]) ∧ OwnInts w' w.heap.size 3 v (sqL L0 a1) ∧ Below w.heap.size w w' := by
  cases hok : okGL L0 a1
  · rw [sqL_no hok]
    exact (specSquaresOfRails_no A0 c0 L0 a1 w l0 h0 hok).mono fun e w' h => ⟨_, h.1, OwnInts.nil _ _ _, h.2⟩
  · obtain ⟨hg, ha⟩ := okGL_at hok
    have HG := Lib.hid (poGround_any A0 c0 L0 w l0 h0)
    have HA := Lib.hid (poLong_any a1 w)
    rw [hg] at HG
    rw [ha] at HA
    obtain ⟨g, rfl, g1, g2⟩ := okL_nat ha
    rw [sqL_yes hok]
    have HF := Lib.hid (poSquares_any A0 c0 L0 g w hg g1 g2 h0)
    clear hok hg ha
    go_enter Try.func62, Try.ntmps62
    go_wp2_with fail
    refine HG.out.mono ?_
    rintro e w1 ⟨rfl, rfl⟩
    go_wp2_with fail
    refine HA.out.mono ?_
    rintro e w1 ⟨rfl, rfl⟩
    go_wp2_with fail
    refine HF.out.mono ?_
    rintro e w1 ⟨v, rfl, hown, hb⟩
    go_wp2
    go_ret2
    exact ⟨_, rfl, hown, hb⟩
end Go.Proofs.Ytacncacpcllgcaa

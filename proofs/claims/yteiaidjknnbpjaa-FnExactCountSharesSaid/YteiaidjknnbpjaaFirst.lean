/- First shares: 'spec.shFirst', 'impl.mirrored', and FirstRated of both sides. No condition but the lists' lengths. -/
import Derived.Test.YteiaidjknnbpjaaFirstMath
import Derived.Test.YteiaidjknnbpjaaLeastLaws
namespace Go.Proofs.Yteiaidjknnbpjaa
open Go.RowKit

def castL (S : List Nat) : List Int := S.map fun n : Nat => (n : Int)
theorem castL_len (S : List Nat) : (castL S).length = S.length := List.length_map ..

theorem take_mono {W : List Int} (h : Pos W) {i j : Nat} (hij : i ≤ j) : (W.take i).sum ≤ (W.take j).sum := by
  have e : (W.take j).sum = (W.take i).sum + ((W.drop i).take (j - i)).sum := by
    rw [← List.sum_append]
    congr 1
    rw [← List.take_append_drop i (W.take j), List.take_take, Nat.min_eq_left hij, List.drop_take]
  have h0 := ((h.drop i).take (j - i)).sum
  omega

set_option maxRecDepth 100000 in
set_option maxHeartbeats 4000000 in
theorem shFirst_any (A0 : Option Addr) (c0 : Nat) (W : List Int) (A1 : Option Addr) (c1 : Nat) (R : List Int) (m : Nat) (w : World) (hw : okW W = true) (hr : okR R = true) (q0 : W.length ≤ c0) (h0 : IntSl w A0 W) (h1 : IntSl w A1 R) (hm : m ≤ 30000) (hf : feas m W R) :
    Calls Try.prog 78 #[.slice A0 W.length c0, .slice A1 R.length c1, .int .i64 m] w fun e w' => ∃ v, e = .returned v ∧ OwnInts w' w.heap.size 3 v (castL (backS m W R)) ∧ Below w.heap.size w w' := by
  obtain ⟨i0, hi, hz0, hz1, hz2⟩ := info_parts info_int
  have hwl := okW_len hw
  have hrl := okR_len hr
  have HWP : Hid (Pos W) := Lib.hid fun x hx => (okW_mem hw x hx).1
  have HRP : Hid (Pos R) := Lib.hid fun x hx => (okR_mem hr x hx).1
  have HRX := Lib.hid (okR_mem hr)
  have HSB := Lib.hid fun f n => sum_cut_w hw f n
  have HCS : Hid (∀ f n W0, f + n ≤ W.length → IntSl W0 A0 W → Calls Try.prog 92 #[.slice (subA A0 f c0) n (c0 - f)] W0 fun e w' => e = .returned (.int .i64 ((W.drop f).take n).sum) ∧ W0 = w') := Lib.hid fun f n W0 hn hW0 =>
    shSum_w (c := c0 - f) (cut_len hn) (by omega) (fun x hx => okW_mem hw x (cut_mem hx)) (hW0.cut f n c0 q0)
  have HSL := Lib.hid fun k f W0 (hk : k < R.length) (hf : f ≤ W.length) x y => shLeast_any A0 c0 W A1 c1 R hw hr q0 (R.length - 1 - k) k f W0 (by omega) hf x y
  obtain ⟨S, hS⟩ : ∃ S, S = backS m W R := ⟨_, rfl⟩
  have hSl : S.length = R.length := by rw [hS, backS_len]
  have HI0 : Hid (backS m (W.drop (posN S 0)) (R.drop 0) = S.drop 0 ∧ feas m (W.drop (posN S 0)) (R.drop 0)) := Lib.hid ⟨by rw [hS]; rfl, hf⟩
  have H0 := Lib.hid h0
  have H1 := Lib.hid h1
  rw [← hS]
  have hm0 : (0 : Int) ≤ (m : Int) := by omega
  clear hS hw hr h0 h1 hf
  go_enter Try.func78, Try.ntmps78
  go_wp2
  go_loopw [7, 8, 9, 10, 11, 14] (fun v f _ _ _ i wr => ∃ k : Nat, k < R.length ∧ i = .int .i64 k ∧ f = .int .i64 (posN S k) ∧ posN S k ≤ W.length ∧ Hid (backS m (W.drop (posN S k)) (R.drop k) = S.drop k ∧ feas m (W.drop (posN S k)) (R.drop k)) ∧ OwnInts wr w.heap.size 3 v (castL (S.take k)) ∧ Below w.heap.size w wr) (fun _ _ _ _ _ i _ => R.length - (intOf i).toNat)
  case atStart => exact ⟨0, by omega, rfl, rfl, Nat.zero_le _, HI0.out |> Lib.hid, OwnInts.nil _ _ _, Below.refl _ _⟩
  case round =>
    clear HI0
    obtain ⟨k, hk, rfl, rfl, hfl, hI, hown, hb⟩ := hrel
    have HO := Lib.hid hown
    have hbs := hb.size
    have HB := Lib.hid hb
    clear hown
    obtain ⟨g1, o1, rfl, hg1, hat1⟩ := (H1.out.below hb).some (by omega)
    have e1 := hat1 k hk
    have hrk := HRX.out R[k] (List.getElem_mem hk)
    have hk0 : (0 : Int) ≤ (k : Int) := by omega
    have hk1 : (k : Int) < (R.length : Int) := by omega
    have hlen : (castL (S.take k)).length = k := by rw [castL_len, List.length_take]; omega
    have HDR : Hid (R.drop k = R[k] :: R.drop (k + 1)) := Lib.hid (List.drop_eq_getElem_cons hk)
    have HDS : Hid (S.drop k = S[k] :: S.drop (k + 1)) := Lib.hid (List.drop_eq_getElem_cons (by omega))
    have HTS : Hid (castL (S.take (k + 1)) = castL (S.take k) ++ [(S[k] : Int)]) := Lib.hid (by
      unfold castL; rw [List.take_succ_eq_append_getElem (by omega), List.map_append]; rfl)
    have HPS : Hid (posN S (k + 1) = posN S k + S[k]) := Lib.hid (posN_succ (by omega))
    clear hat1
    obtain ⟨f, hfe⟩ : ∃ f, f = posN S k := ⟨_, rfl⟩
    rw [← hfe] at hfl hI HPS
    rw [← hfe]
    by_cases hlast : k + 1 = R.length
    · have HV : Hid (S[k] = W.length - f ∧ S.take (k + 1) = S) := Lib.hid (by
        have h2 := hI.out
        rw [HDR.out, show R.drop (k + 1) = [] from List.drop_eq_nil_of_le (by omega)] at h2
        rw [backS_one hm0 hrk.1 (HWP.out.drop f) h2.2, HDS.out, List.length_drop] at h2
        refine ⟨by have := h2.1; injection this with this; exact this.symm, List.take_of_length_le (by omega)⟩)
      have hkb : ((k : Int) == (R.length : Int) - 1) = true := by rw [beq_iff_eq]; omega
      have HEV : Hid (castL S = castL (S.take k) ++ [((W.length : Int) - (f : Int))]) := Lib.hid (by
        have e : ((W.length - f : Nat) : Int) = (W.length : Int) - (f : Int) := by omega
        have h2 := HTS.out
        rw [HV.out.1, HV.out.2, e] at h2
        exact h2)
      clear hI hfe HTS HPS HDS HDR HV
      have hwf : (0 : Int) ≤ (W.length : Int) - (f : Int) := by omega
      go_wp2_with (at_builtin; refine wpList_append_own _ rfl (.tmp 24) (.tmp 29) _ rfl w.heap.size 3 i0 _ 1 8 Try.underlying24 hi hz0 hz1 hz2 rfl (by decide) _ (castL (S.take k)).length ((castL (S.take k)).map (Value.int .i64)) rfl (World.ownsRow.alloc HO.out _) ⟨_, 0, none⟩ 1 1 [.int .i64 ((W.length : Int) - (f : Int))] rfl rfl (World.news_of_block (cs := #[.int .i64 ((W.length : Int) - (f : Int))]) (t := 3) (fr := (0, 0)) (heap_alloc_new _ _)) (by simp [Value.oneCell']) (by unfold maxLen; omega) (by omega) (by simp; omega) ?_; intro v' w3 hown' hgrow _)
      have HR : Hid (OwnInts w3 w.heap.size 3 v' (castL S)) := Lib.hid (by rw [HEV.out]; exact OwnInts.snoc hown')
      have HB3 : Hid (Below w.heap.size w w3) := Lib.hid ((HB.out.alloc hbs _).grown hgrow (by simp; omega) fun k hk => (World.ownsRow.lt HO.out k hk).1)
      clear hown' hgrow
      go_ret
      exact ⟨_, rfl, HR.out, HB3.out⟩
    · obtain ⟨n, c1', c2', c3', c4', c5'⟩ := backS_cons (W := W.drop f) hm0 hrk.1 (HRP.out.drop (k + 1)) (HWP.out.drop f) (by rw [← HDR.out]; exact hI.out.2)
      have h2 := hI.out.1
      rw [HDR.out, HDS.out, c1'] at h2
      injection h2 with h3 h4
      rw [List.length_drop] at c2'
      rw [List.drop_drop] at h4 c4'
      rw [← h3] at HTS HPS
      have HN4 : Hid (backS m (W.drop (f + n)) (R.drop (k + 1)) = S.drop (k + 1) ∧ feas m (W.drop (f + n)) (R.drop (k + 1))) := Lib.hid ⟨h4, c4'⟩
      have hnr : R.drop (k + 1) ≠ [] := by
        intro e
        have := List.drop_eq_nil_iff.1 e
        omega
      have HLT : Hid (∀ j, j ≤ n → R[k] * ((W.drop f).take j).sum ≤ m ∧ (leastT (W.drop (f + j)) (R.drop (k + 1)) ≤ m ↔ j = n)) := Lib.hid fun j hj => by
        refine ⟨?_, ?_⟩
        · have e := take_mono (HWP.out.drop f) hj
          have : R[k] * ((W.drop f).take j).sum ≤ R[k] * ((W.drop f).take n).sum := Int.mul_le_mul_of_nonneg_left e (by omega)
          omega
        · rw [feas_iff hnr]
          constructor
          · intro h
            by_cases e : j = n
            · exact e
            · exact absurd (by rw [List.drop_drop]; exact h) (c5' j (by omega))
          · rintro rfl; exact c4'
      have hkb : ((k : Int) == (R.length : Int) - 1) = false := by rw [beq_eq_false_iff_ne]; omega
      have HIS := Lib.hid fun j W0 (hj : f + j ≤ W.length) x y => HSL.out (k + 1) (f + j) W0 (by omega) hj x y
      obtain ⟨r, hrr⟩ : ∃ r, r = R[k] := ⟨_, rfl⟩
      rw [← hrr] at e1 hrk HLT
      clear hI hfe HDS HDR h3 h4 c1' c3' c4' c5' hnr hrr
      go_wp2
      go_loopw [11] (fun u wi => ∃ j q : Nat, j ≤ n ∧ u = .int .i64 j ∧ wi = wr.drewN q) (fun u _ => n - (intOf u).toNat)
      case atStart => exact ⟨0, 0, Nat.zero_le _, rfl, rfl⟩
      case round =>
        obtain ⟨j, q, hj, rfl, rfl⟩ := hrel
        have hcut := fun W0 => cut_ln A0 W.length c0 f j (by omega) W0
        have hsb := HSB.out f j
        have hmb := mul_bd hrk.1 hrk.2 hsb.1 hsb.2
        obtain ⟨hle, hiff⟩ := HLT.out j hj
        have HIF := Lib.hid hiff
        have HS := Lib.hid fun W0 x => HCS.out f j W0 (by omega) x
        have HI2 := Lib.hid fun W0 x y => HIS.out j W0 (by omega) x y
        have hB2 := below_drewN HB.out q
        obtain ⟨s, hs⟩ : ∃ s, s = ((W.drop f).take j).sum := ⟨_, rfl⟩
        obtain ⟨x, hx⟩ : ∃ x, x = leastT (W.drop (f + j)) (R.drop (k + 1)) := ⟨_, rfl⟩
        rw [← hs] at HS hmb hle
        rw [← hx] at HI2 HIF
        have hnle : ¬ (m : Int) < r * s := by omega
        clear hiff hs hx hsb
        by_cases hjn : j = n
        · subst hjn
          have hxm : ¬ (m : Int) < x := by have := HIF.out.2 rfl; omega
          have HO2 := Lib.hid fun q => OwnInts.below HO.out (below_drewN (Below.refl wr.heap.size wr) q)
          go_wp2_with (first
            | (go_at_call 92; refine (HS.out _ (H0.out.below hB2)).mono ?_; rintro e w2 ⟨rfl, rfl⟩)
            | (go_at_call 79; refine (HI2.out _ (H0.out.below hB2) (H1.out.below hB2)).mono ?_; rintro e w2 ⟨rfl, q2, rfl⟩)
            | (at_builtin; refine wpList_append_own _ rfl (.tmp 56) (.tmp 58) _ rfl w.heap.size 3 i0 _ 1 8 Try.underlying24 hi hz0 hz1 hz2 rfl (by decide) _ (castL (S.take k)).length ((castL (S.take k)).map (Value.int .i64)) rfl (World.ownsRow.alloc (HO2.out _) _) ⟨_, 0, none⟩ 1 1 [.int .i64 (j : Int)] rfl rfl (World.news_of_block (cs := #[.int .i64 (j : Int)]) (t := 3) (fr := (0, 0)) (heap_alloc_new _ _)) (by simp [Value.oneCell']) (by unfold maxLen; omega) (by omega) (by rw [World.size_alloc]; show w.heap.size ≤ wr.heap.size + 1; omega) ?_; intro v' w3 hown' hgrow _))
          have HR : Hid (OwnInts w3 w.heap.size 3 v' (castL (S.take (k + 1)))) := Lib.hid (by rw [HTS.out]; exact OwnInts.snoc hown')
          have HB3 : Hid (Below w.heap.size w w3) := Lib.hid (((below_drewN HB.out _).alloc hbs _).grown hgrow (by rw [World.size_alloc]; show w.heap.size ≤ wr.heap.size + 1; omega) fun k hk => (World.ownsRow.lt HO.out k hk).1)
          clear hown' hgrow
          go_wp2
          go_roundw
          case rel => exact ⟨k + 1, by omega, by go_num, by rw [HPS.out]; go_num, by rw [HPS.out]; omega, by rw [HPS.out]; exact HN4, HR.out, HB3.out⟩
          case measure => simp [intOf]; omega
        · have hxm : (m : Int) < x := by have := mt HIF.out.1 hjn; omega
          go_wp2_with (first
            | (go_at_call 92; refine (HS.out _ (H0.out.below hB2)).mono ?_; rintro e w2 ⟨rfl, rfl⟩)
            | (go_at_call 79; refine (HI2.out _ (H0.out.below hB2) (H1.out.below hB2)).mono ?_; rintro e w2 ⟨rfl, q2, rfl⟩))
          go_roundw
          case rel => exact ⟨j + 1, _, by omega, by go_num, by first | rfl | exact World.drewN_drewN _ _ _⟩
          case measure => simp [intOf]; omega
end Go.Proofs.Yteiaidjknnbpjaa

/- WorkOf of both sides. No condition but the lists' lengths. -/
import Derived.Test.YteiaidjknnbpjaaWork
namespace Go.Proofs.Yteiaidjknnbpjaa
open Go.RowKit

def okWS (W : List Int) (p : Int) (S : List Int) : Bool := okWP W p && isSh W.length p S
def resW (W : List Int) (p : Int) (S : List Int) : List Int := if okWS W p S = true then workJ W (S.map Int.toNat) S.length else []
theorem okWS_at {W : List Int} {p : Int} {S : List Int} (h : okWS W p S = true) : okWP W p = true ∧ okW W = true ∧ isSh W.length p S = true ∧ (S.length : Int) = p ∧ 1 ≤ p ∧ p ≤ 5 := by
  unfold okWS at h
  rw [Bool.and_eq_true] at h
  obtain ⟨h1, h2⟩ := h
  obtain ⟨a, b⟩ := okWP_w h1
  obtain ⟨T, e, _, _, hp⟩ := isSh_nats h2
  refine ⟨h1, a, h2, ?_, b⟩
  rw [e, List.length_map]; exact hp
theorem resW_len (W : List Int) (p : Int) (S : List Int) : (resW W p S).length ≤ 1048576 := by
  unfold resW
  split
  · next h => obtain ⟨_, _, _, h4, _, h5⟩ := okWS_at h; rw [workJ_len]; omega
  · exact Nat.zero_le _

set_option maxRecDepth 20000 in
set_option maxHeartbeats 2000000 in
theorem implWork_yes (A0 : Option Addr) (c0 : Nat) (L0 : List Int) (a1 : Int) (A2 : Option Addr) (c2 : Nat) (L2 : List Int) (w : World) (q0 : L0.length ≤ c0) (h0 : IntSl w A0 L0) (h2 : IntSl w A2 L2) (hok : okWS L0 a1 L2 = true) :
    Calls Try.prog 50 #[.slice A0 L0.length c0, .int .i64 a1, .slice A2 L2.length c2] w fun e w' => ∃ v, e = .returned (.tuple #[v, .bool true]) ∧ OwnInts w' w.heap.size 3 v (workJ L0 (L2.map Int.toNat) L2.length) ∧ Below w.heap.size w w' := by
  obtain ⟨i0, hi, hz0, hz1, hz2⟩ := info_parts info_int
  obtain ⟨hp, hw, hsh, hlen, hp1, hp5⟩ := okWS_at hok
  have hwl := okW_len hw
  have hwx := Lib.hid (okW_mem hw)
  have HIS := Lib.hid fun W h0 h2 => implShare_any A0 c0 L0 a1 A2 c2 L2 W (by omega) h0 (by omega) h2
  rw [hp, hsh, Bool.true_and] at HIS
  obtain ⟨T, e, hs, ht, -⟩ := isSh_nats hsh
  rw [ht]
  have hTL : L2.length = T.length := by rw [e, List.length_map]
  rw [e] at h2
  have HIS' : Hid (∀ W, IntSl W A0 L0 → IntSl W A2 L2 → Calls Try.prog 56 #[.slice A0 L0.length c0, .int .i64 (T.length : Int), .slice A2 T.length c2] W fun e w' => e = .returned (.tuple #[.bool true, .bool true]) ∧ W = w') := Lib.hid fun W x y => by
    have := HIS.out W x y
    rw [← hlen, hTL] at this
    exact this
  have HS2 := Lib.hid h2
  have HSL := Lib.hid h0
  have HEQ := Lib.hid e
  rw [← hlen, hTL]
  rw [← hlen, hTL] at hp1 hp5
  clear e h2 h0 hp hw hsh HIS hok ht hTL hlen
  go_enter Try.func50, Try.ntmps50
  go_wp2_with (first
    | (go_at_call 56; refine (HIS'.out _ HSL.out (by rw [HEQ.out]; exact HS2.out)).mono ?_; rintro e w1 ⟨rfl, rfl⟩)
    | (at_make; refine wpList_make_full _ rfl (.tmp 26) (.tmp 26) _ rfl w.heap.size 3 i0 _ 1 Try.underlying24 hi hz0 hz1 .i64 .i64 _ _ T.length rfl rfl rfl rfl (by rw [hz2]; omega) (by unfold maxLen; omega) (Nat.le_refl _) ?_; intro w1 hown hgrow))
  have HF : Hid (Filled w w.heap.size 3 1 (.slice (some ⟨w.heap.size, 0, none⟩) T.length T.length) T.length ((workJ L0 T T.length).map (Value.int .i64)) 0 w1) := Lib.hid (Filled.made hown ((Below.refl _ _).grown hgrow (Nat.le_refl _) (fun k hk => by cases hk)))
  clear hown hgrow HIS'
  go_loopw [0, 11, 12, 30] (fun z _ _ i wr => ∃ j : Nat, j ≤ T.length ∧ i = .int .i64 j ∧ (∃ B : Option Addr, ∃ cb : Nat, z = .slice B (L0.length - posN T j) cb ∧ L0.length - posN T j ≤ cb ∧ IntSl w B (L0.drop (posN T j))) ∧ Filled w w.heap.size 3 1 (.slice (some ⟨w.heap.size, 0, none⟩) T.length T.length) T.length ((workJ L0 T T.length).map (Value.int .i64)) j wr) (fun _ _ _ i _ => T.length - (intOf i).toNat)
  case atStart => exact ⟨0, Nat.zero_le _, rfl, ⟨_, _, rfl, q0, HSL.out⟩, HF.out⟩
  case round =>
    obtain ⟨j, hj, rfl, ⟨B, cb, rfl, hcb, hB⟩, hf⟩ := hrel
    have HF1 := Lib.hid hf
    have HBB := Lib.hid hB
    clear hf hB HF
    by_cases hlt : j < T.length
    · obtain ⟨g2, o2, rfl, hg2, hat2⟩ := (HS2.out.below HF1.out.below0).some (by rw [List.length_map]; omega)
      have hc2 := hat2 j (by rw [List.length_map]; omega)
      rw [List.getElem_map] at hc2
      have HP := Lib.hid (posN_succ hlt)
      have hp1 := posN_le T (j + 1)
      rw [HP.out, hs] at hp1
      have HE := Lib.hid (workN_eq (W := L0) hlt)
      have HAT := Lib.hid (workJ_at L0 T T.length j hlt)
      obtain ⟨q, hq⟩ : ∃ q, q = T[j] := ⟨_, rfl⟩
      obtain ⟨p, hp⟩ : ∃ p, p = posN T j := ⟨_, rfl⟩
      rw [← hq, ← hp] at HP HE
      rw [← hq] at hc2
      rw [← hp] at hp1 hcb HBB
      rw [← hq] at hp1
      rw [← hp]
      have hcutH := fun W0 => cut_h B (L0.length - p) cb q (by omega) W0
      have hcutL := fun W0 => cut_l B (L0.length - p) cb q (by omega) W0
      have HCL := Lib.hid (cut_len (L := L0) hp1)
      have HCX := Lib.hid fun x (hx : x ∈ (L0.drop p).take q) => hwx.out x (cut_mem hx)
      have HCS := Lib.hid fun W0 (hW0 : Below w.heap.size w W0) => sumOf_w (c := cb) HCL.out (by omega) HCX.out ((HBB.out.below hW0).take q)
      have HBD := Lib.hid (HBB.out.drop q cb (by rw [List.length_drop]; exact hcb))
      rw [List.drop_drop] at HBD
      have hb := HF1.out.below0
      obtain ⟨⟨u1, d1⟩, f1⟩ := HF1.out.cell j (by omega)
      have hj0 : (0 : Int) ≤ (j : Int) := by omega
      have hj1 : (j : Int) < (T.length : Int) := by omega
      clear hat2 hp hq
      go_wp2_with (go_at_call 88; refine (HCS.out _ hb).mono ?_; rintro e w2 ⟨rfl, rfl⟩; rw [← HE.out])
      go_roundw
      case rel => exact ⟨j + 1, by omega, by go_num, ⟨_, _, by rw [HP.out, Nat.sub_sub], by rw [HP.out]; omega, by rw [HP.out]; exact HBD.out⟩, HF1.out.step (by omega) (Nat.le_refl _) HAT.out⟩
      case measure => simp [intOf]; omega
    · obtain rfl : j = T.length := by omega
      have HA := Lib.hid (Filled.all (by rw [Nat.mul_one]; exact HF1.out) (by rw [List.length_map, workJ_len, Nat.mul_one]))
      have HV : Hid (OwnInts wr w.heap.size 3 (.slice (some ⟨w.heap.size, 0, none⟩) T.length T.length) (workJ L0 T T.length)) := Lib.hid (by unfold OwnInts; rw [workJ_len]; exact HA.out.1)
      go_wp2
      go_ret2
      exact ⟨_, rfl, HV.out, HA.out.2⟩

theorem implWorkOf_any (A0 : Option Addr) (c0 : Nat) (L0 : List Int) (a1 : Int) (A2 : Option Addr) (c2 : Nat) (L2 : List Int) (w : World) (l0 : L0.length ≤ 1048576) (_ : WfL L0) (q0 : L0.length ≤ c0) (h0 : IntSl w A0 L0) (_ : (Lit.int .i64 a1).wf = true) (l2 : L2.length ≤ 1048576) (_ : WfL L2) (_ : L2.length ≤ c2) (h2 : IntSl w A2 L2) :
    Calls Try.prog 50 #[.slice A0 L0.length c0, .int .i64 a1, .slice A2 L2.length c2] w fun e w' => ∃ v, e = .returned (.tuple #[v, .bool (okWS L0 a1 L2)]) ∧ OwnInts w' w.heap.size 3 v (resW L0 a1 L2) ∧ Below w.heap.size w w' := by
  cases hok : okWS L0 a1 L2
  · rw [show resW L0 a1 L2 = [] by unfold resW; rw [hok]; rfl]
    have HIS := Lib.hid (implShare_any A0 c0 L0 a1 A2 c2 L2 w l0 h0 l2 h2)
    have hok2 := hok
    unfold okWS at hok2
    rw [hok2] at HIS
    clear hok hok2
    cases hk : okWP L0 a1
    · rw [hk] at HIS
      clear hk
      go_enter Try.func50, Try.ntmps50
      go_wp2_with (go_at_call 56; refine HIS.out.mono ?_; rintro e w1 ⟨rfl, rfl⟩)
      go_ret2
      exact ⟨_, rfl, OwnInts.nil _ _ _, Below.refl _ _⟩
    · rw [hk] at HIS
      clear hk
      go_enter Try.func50, Try.ntmps50
      go_wp2_with (go_at_call 56; refine HIS.out.mono ?_; rintro e w1 ⟨rfl, rfl⟩)
      go_ret2
      exact ⟨_, rfl, OwnInts.nil _ _ _, Below.refl _ _⟩
  · rw [show resW L0 a1 L2 = workJ L0 (L2.map Int.toNat) L2.length by unfold resW; rw [if_pos hok]]
    exact implWork_yes A0 c0 L0 a1 A2 c2 L2 w q0 h0 h2 hok
theorem specWorkOf_any (A0 : Option Addr) (c0 : Nat) (L0 : List Int) (a1 : Int) (A2 : Option Addr) (c2 : Nat) (L2 : List Int) (w : World) (l0 : L0.length ≤ 1048576) (_ : WfL L0) (q0 : L0.length ≤ c0) (h0 : IntSl w A0 L0) (_ : (Lit.int .i64 a1).wf = true) (l2 : L2.length ≤ 1048576) (_ : WfL L2) (_ : L2.length ≤ c2) (h2 : IntSl w A2 L2) :
    Calls Try.prog 57 #[.slice A0 L0.length c0, .int .i64 a1, .slice A2 L2.length c2] w fun e w' => ∃ v, e = .returned (.tuple #[v, .bool (okWS L0 a1 L2)]) ∧ OwnInts w' w.heap.size 3 v (resW L0 a1 L2) ∧ Below w.heap.size w w' := by
  have HSL := Lib.hid h0
  have HS2 := Lib.hid h2
  cases hk : okWP L0 a1
  · have hok : okWS L0 a1 L2 = false := by unfold okWS; rw [hk]; rfl
    rw [show resW L0 a1 L2 = [] by unfold resW; rw [hok]; rfl, hok]
    have HK := Lib.hid hk
    clear hok hk h0 h2
    go_enter Try.func57, Try.ntmps57
    go_wp2_with (go_at_call 105; refine (shPainters_any A0 c0 L0 a1 _ l0 HSL.out).mono ?_; rintro e w' ⟨rfl, rfl⟩; rw [HK.out])
    go_ret2
    exact ⟨_, rfl, OwnInts.nil _ _ _, Below.refl _ _⟩
  · obtain ⟨hw, hp1, hp2⟩ := okWP_w hk
    have hl := okW_len hw
    have HC := Lib.hid fun W hW => shIs_any A0 c0 L0.length a1 A2 c2 L2 W hl.2 hp2 hW l2
    cases hsh : isSh L0.length a1 L2
    · have hok : okWS L0 a1 L2 = false := by unfold okWS; rw [hk, hsh]; rfl
      rw [show resW L0 a1 L2 = [] by unfold resW; rw [hok]; rfl, hok]
      have HK := Lib.hid hk
      rw [hsh] at HC
      clear hok hk h0 h2 hsh
      go_enter Try.func57, Try.ntmps57
      go_wp2_with (first
        | (go_at_call 105; refine (shPainters_any A0 c0 L0 a1 _ l0 HSL.out).mono ?_; rintro e w' ⟨rfl, rfl⟩; rw [HK.out])
        | (go_at_call 98; refine (HC.out _ HS2.out).mono ?_; rintro e w' ⟨rfl, rfl⟩))
      go_ret2
      exact ⟨_, rfl, OwnInts.nil _ _ _, Below.refl _ _⟩
    · have hok : okWS L0 a1 L2 = true := by unfold okWS; rw [hk, hsh]; rfl
      rw [show resW L0 a1 L2 = workJ L0 (L2.map Int.toNat) L2.length by unfold resW; rw [if_pos hok], hok]
      have HK := Lib.hid hk
      rw [hsh] at HC
      obtain ⟨T, e, hs, ht, hTp⟩ := isSh_nats hsh
      rw [ht]
      have hTL : L2.length = T.length := by rw [e, List.length_map]
      have HW : Hid (Calls Try.prog 99 #[.slice A0 L0.length c0, .slice A2 L2.length c2] w fun e w' => ∃ v, e = .returned v ∧ OwnInts w' w.heap.size 3 v (workJ L0 T L2.length) ∧ Below w.heap.size w w') := Lib.hid (by
        rw [hTL]
        exact shWork_any A0 c0 L0 A2 c2 T w hw q0 (by omega) hs h0 (by rw [← e]; exact h2))
      clear hok hk h0 h2 hsh e hTL hw ht
      go_enter Try.func57, Try.ntmps57
      go_wp2_with (first
        | (go_at_call 105; refine (shPainters_any A0 c0 L0 a1 _ l0 HSL.out).mono ?_; rintro e w' ⟨rfl, rfl⟩; rw [HK.out])
        | (go_at_call 98; refine (HC.out _ HS2.out).mono ?_; rintro e w' ⟨rfl, rfl⟩)
        | (go_at_call 99; refine HW.out.mono ?_; rintro e w' ⟨v, rfl, hown, hb⟩))
      go_ret2
      exact ⟨_, rfl, hown, hb⟩
end Go.Proofs.Yteiaidjknnbpjaa

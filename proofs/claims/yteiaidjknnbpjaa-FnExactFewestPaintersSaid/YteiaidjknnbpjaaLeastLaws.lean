/- LeastTime and LeastWork of both sides. No condition but the lists' lengths. -/
import Derived.Test.YteiaidjknnbpjaaShLeast
import Derived.Test.YteiaidjknnbpjaaRepeat
namespace Go.Proofs.Yteiaidjknnbpjaa
open Go.RowKit

def resL (W R : List Int) : Int := if okWR W R = true then leastT W R else 0
theorem implLeastTime_any (A0 : Option Addr) (c0 : Nat) (L0 : List Int) (A1 : Option Addr) (c1 : Nat) (L1 : List Int) (w : World) (l0 : L0.length ≤ 1048576) (_ : WfL L0) (_ : L0.length ≤ c0) (h0 : IntSl w A0 L0) (l1 : L1.length ≤ 1048576) (_ : WfL L1) (_ : L1.length ≤ c1) (h1 : IntSl w A1 L1) :
    Calls Try.prog 26 #[.slice A0 L0.length c0, .slice A1 L1.length c1] w fun e w' => e = .returned (.tuple #[.int .i64 (resL L0 L1), .bool (okWR L0 L1)]) ∧ Below w.heap.size w w' := by
  have HW := Lib.hid fun W h => implWidths_any A0 c0 L0 W l0 h
  have HR := Lib.hid fun W h => implRates_any A1 c1 L1 W l1 h
  cases hw : okW L0
  · have hok : okWR L0 L1 = false := by unfold okWR; rw [hw]; rfl
    rw [show resL L0 L1 = 0 by unfold resL; rw [hok]; rfl, hok]
    rw [hw] at HW
    clear hw hok
    go_enter Try.func26, Try.ntmps26
    go_wp2_with (go_at_call 53; refine (HW.out _ h0).mono ?_; rintro e w1 ⟨rfl, rfl⟩)
    go_ret2
    exact ⟨rfl, Below.refl _ _⟩
  · cases hr : okR L1
    · have hok : okWR L0 L1 = false := by unfold okWR; rw [hw, hr]; rfl
      rw [show resL L0 L1 = 0 by unfold resL; rw [hok]; rfl, hok]
      rw [hw] at HW
      rw [hr] at HR
      clear hw hok hr
      go_enter Try.func26, Try.ntmps26
      go_wp2_with (first
        | (go_at_call 53; refine (HW.out _ h0).mono ?_; rintro e w1 ⟨rfl, rfl⟩)
        | (go_at_call 33; refine (HR.out _ h1).mono ?_; rintro e w1 ⟨rfl, rfl⟩))
      go_ret2
      exact ⟨rfl, Below.refl _ _⟩
    · have hok : okWR L0 L1 = true := by unfold okWR; rw [hw, hr]; rfl
      rw [show resL L0 L1 = leastT L0 L1 by unfold resL; rw [if_pos hok], hok]
      have HL := Lib.hid fun W x y => leastTime_any A0 c0 L0 A1 c1 L1 W hw hr x y
      rw [hw] at HW
      rw [hr] at HR
      clear hw hok hr
      go_enter Try.func26, Try.ntmps26
      go_wp2_with (first
        | (go_at_call 53; refine (HW.out _ h0).mono ?_; rintro e w1 ⟨rfl, rfl⟩)
        | (go_at_call 33; refine (HR.out _ h1).mono ?_; rintro e w1 ⟨rfl, rfl⟩)
        | (go_at_call 80; refine (HL.out _ h0 h1).mono ?_; rintro e w1 ⟨rfl, hb⟩))
      go_ret2
      exact ⟨rfl, hb⟩
/-- what the specification's search returns from the first board and the first painter on -/
theorem shLeast0_any (A0 : Option Addr) (c0 : Nat) (W : List Int) (A1 : Option Addr) (c1 : Nat) (R : List Int) (w : World) (hw : okW W = true) (hr : okR R = true) (q0 : W.length ≤ c0) (h0 : IntSl w A0 W) (h1 : IntSl w A1 R) :
    Calls Try.prog 79 #[.slice A0 W.length c0, .slice A1 R.length c1, .int .i64 0, .int .i64 0] w fun e w' => e = .returned (.int .i64 (leastT W R)) ∧ ∃ q, w' = w.drewN q := by
  have hrl := okR_len hr
  exact shLeast_any A0 c0 W A1 c1 R hw hr q0 (R.length - 1) 0 0 w (by omega) (Nat.zero_le _) h0 h1
theorem specLeastTime_any (A0 : Option Addr) (c0 : Nat) (L0 : List Int) (A1 : Option Addr) (c1 : Nat) (L1 : List Int) (w : World) (l0 : L0.length ≤ 1048576) (_ : WfL L0) (q0 : L0.length ≤ c0) (h0 : IntSl w A0 L0) (l1 : L1.length ≤ 1048576) (_ : WfL L1) (_ : L1.length ≤ c1) (h1 : IntSl w A1 L1) :
    Calls Try.prog 27 #[.slice A0 L0.length c0, .slice A1 L1.length c1] w fun e w' => e = .returned (.tuple #[.int .i64 (resL L0 L1), .bool (okWR L0 L1)]) ∧ Below w.heap.size w w' := by
  have HR := Lib.hid (shRated_any A0 c0 L0 A1 c1 L1 w l0 h0 l1 h1)
  cases hok : okWR L0 L1
  · rw [show resL L0 L1 = 0 by unfold resL; rw [hok]; rfl]
    unfold okWR at hok
    rw [hok] at HR
    clear hok
    go_enter Try.func27, Try.ntmps27
    go_wp2_with (go_at_call 77; refine HR.out.mono ?_; rintro e w1 ⟨rfl, rfl⟩)
    go_ret2
    exact ⟨rfl, Below.refl _ _⟩
  · rw [show resL L0 L1 = leastT L0 L1 by unfold resL; rw [if_pos hok]]
    obtain ⟨hw, hr⟩ := okWR_at hok
    unfold okWR at hok
    rw [hok] at HR
    have HL := Lib.hid fun W x y => shLeast0_any A0 c0 L0 A1 c1 L1 W hw hr q0 x y
    clear hok hw hr
    go_enter Try.func27, Try.ntmps27
    go_wp2_with (first
      | (go_at_call 77; refine HR.out.mono ?_; rintro e w1 ⟨rfl, rfl⟩)
      | (go_at_call 79; refine (HL.out _ h0 h1).mono ?_; rintro e w1 ⟨rfl, q, rfl⟩))
    go_ret2
    exact ⟨rfl, below_drewN (Below.refl _ _) _⟩

/-- painters who are alike -/
def onesR (p : Int) : List Int := List.replicate p.toNat 1
theorem onesR_ok {p : Int} (h : okP p = true) : okR (onesR p) = true ∧ (onesR p).length = p.toNat ∧ 1 ≤ p ∧ p ≤ 5 := by
  unfold okP at h
  rw [decide_eq_true_iff] at h
  refine ⟨?_, by unfold onesR; rw [List.length_replicate], h⟩
  unfold okR onesR
  rw [okNums_of (by rw [List.length_replicate]; omega)]
  unfold allIn
  rw [List.all_eq_true]
  intro x hx
  obtain ⟨_, rfl⟩ := List.mem_replicate.1 hx
  decide
theorem one_sl (w : World) (x : Int) (e : TypeId) : IntSl (w.alloc (.cells #[.int .i64 x] e)) (some ⟨w.heap.size, 0, none⟩) [x] := by
  refine .inr ⟨w.heap.size, 0, rfl, by simp, fun k hk => ?_⟩
  rw [cell_of_row _ w.heap.size (0 + k) _ e (0, 0) (heap_alloc_new w _)]
  match k, hk with
  | 0, _ => rfl
theorem alikeRates_any (p : Nat) (w : World) (h1 : 1 ≤ p) (h5 : p ≤ 5) :
    Calls Try.prog 109 #[.int .i64 p] w fun e w' => ∃ g, e = .returned (.slice (some ⟨g, 0, none⟩) p p) ∧ OwnInts w' w.heap.size 3 (.slice (some ⟨g, 0, none⟩) p p) (List.replicate p 1) ∧ Below w.heap.size w w' := by
  have H1 := Lib.hid (one_sl w 1 3)
  have HR := Lib.hid fun W A (h : IntSl W A [1]) => slRepeat_any A 1 1 p W h1 (by omega) h
  go_enter Try.func109, Try.ntmps109
  go_wp2_with (go_at_call 114; refine (HR.out _ _ H1.out).mono ?_; rintro e w1 ⟨rfl, hown, hb⟩)
  go_ret
  exact ⟨w.heap.size + 1, by simp, by simpa using hown.mono (b' := w.heap.size) (by simp), below_box hb⟩
def resLW (W : List Int) (p : Int) : Int := if okWP W p = true then leastT W (onesR p) else 0
theorem okWP_eq (W : List Int) (p : Int) (h : okP p = true) : okWR W (onesR p) = okWP W p := by
  unfold okWR okWP
  rw [(onesR_ok h).1, h]
theorem implLeastWork_any (A0 : Option Addr) (c0 : Nat) (L0 : List Int) (a1 : Int) (w : World) (l0 : L0.length ≤ 1048576) (f0 : WfL L0) (q0 : L0.length ≤ c0) (h0 : IntSl w A0 L0) (_ : (Lit.int .i64 a1).wf = true) :
    Calls Try.prog 61 #[.slice A0 L0.length c0, .int .i64 a1] w fun e w' => e = .returned (.tuple #[.int .i64 (resLW L0 a1), .bool (okWP L0 a1)]) ∧ Below w.heap.size w w' := by
  have HP := Lib.hid fun W => arePainters_any a1 W
  cases hp : okP a1
  · have hok : okWP L0 a1 = false := by unfold okWP; rw [hp, Bool.and_false]
    rw [show resLW L0 a1 = 0 by unfold resLW; rw [hok]; rfl, hok]
    rw [hp] at HP
    clear hp hok
    go_enter Try.func61, Try.ntmps61
    go_wp2_with (go_at_call 106; refine (HP.out _).mono ?_; rintro e w1 ⟨rfl, rfl⟩)
    go_ret2
    exact ⟨rfl, Below.refl _ _⟩
  · obtain ⟨ho, hl, hp1, hp5⟩ := onesR_ok hp
    have hwf : WfL (onesR a1) := fun x hx => by
      obtain ⟨_, rfl⟩ := List.mem_replicate.1 hx
      decide
    have HT := Lib.hid fun W A (x : IntSl W A0 L0) (y : IntSl W A (onesR a1)) => implLeastTime_any A0 c0 L0 A (onesR a1).length (onesR a1) W l0 f0 q0 x (by omega) hwf (Nat.le_refl _) y
    rw [show resL L0 (onesR a1) = resLW L0 a1 by unfold resL resLW; rw [okWP_eq L0 a1 hp], okWP_eq L0 a1 hp, hl] at HT
    rw [hp] at HP
    obtain ⟨p, rfl⟩ : ∃ p : Nat, a1 = p := ⟨a1.toNat, by omega⟩
    unfold onesR at HT
    rw [Int.toNat_natCast] at HT
    have HA := Lib.hid fun W => alikeRates_any p W (by omega) (by omega)
    obtain ⟨ra, hra⟩ : ∃ a, a = resLW L0 p := ⟨_, rfl⟩
    obtain ⟨rb, hrb⟩ : ∃ a, a = okWP L0 p := ⟨_, rfl⟩
    rw [← hra, ← hrb] at HT ⊢
    have H0 := Lib.hid h0
    clear hp ho hl hwf hra hrb h0
    go_enter Try.func61, Try.ntmps61
    go_wp2_with (first
      | (go_at_call 106; refine (HP.out _).mono ?_; rintro e w1 ⟨rfl, rfl⟩)
      | (go_at_call 109; refine (HA.out _).mono ?_; rintro e w1 ⟨g, rfl, hown, hb⟩)
      | (go_at_call 26; refine (HT.out _ _ (H0.out.below hb) (IntSl.of_own hown)).mono ?_; rintro e w1 ⟨rfl, hb2⟩))
    go_ret2
    exact ⟨rfl, below_next hb hb2⟩

theorem own_rep {w : World} {b j : Nat} {e : TypeId} {v : Value} {x : Int} (h : OwnInts w b e v (List.replicate j x)) : w.ownsRow b e 1 v j (List.replicate j (.int .i64 x)) := by
  unfold OwnInts at h
  rw [List.length_replicate, List.map_replicate] at h
  exact h

set_option maxRecDepth 20000 in
set_option maxHeartbeats 1000000 in
theorem shSame_any (p : Nat) (w : World) (h5 : p ≤ 5) :
    Calls Try.prog 108 #[.int .i64 p] w fun e w' => ∃ v, e = .returned v ∧ OwnInts w' w.heap.size 3 v (List.replicate p 1) ∧ Below w.heap.size w w' := by
  obtain ⟨i0, hi, hz0, hz1, hz2⟩ := info_parts info_int
  go_enter Try.func108, Try.ntmps108
  go_wp2
  go_loopw [0, 3] (fun i v wr => ∃ j : Nat, j ≤ p ∧ i = .int .i64 ((p - j : Nat) : Int) ∧ OwnInts wr w.heap.size 3 v (List.replicate j 1) ∧ Below w.heap.size w wr) (fun i _ _ => (intOf i).toNat)
  case atStart => exact ⟨0, Nat.zero_le _, by rw [Nat.sub_zero], OwnInts.nil _ _ _, Below.refl _ _⟩
  case round =>
    obtain ⟨j, hj, rfl, hown, hb⟩ := hrel
    have HO := Lib.hid hown
    have hlen : (List.replicate j (1 : Int)).length = j := List.length_replicate
    have hlen2 : (List.replicate j (Value.int .i64 1)).length = j := List.length_replicate
    have HN : Hid (List.replicate (j + 1) (1 : Int) = List.replicate j 1 ++ [1]) := Lib.hid List.replicate_succ'
    have hbs := hb.size
    clear hown
    by_cases hlt : j < p
    · have HO2 := Lib.hid (own_rep HO.out)
      go_wp2_with (at_builtin; refine wpList_append_own _ rfl (.tmp 8) (.tmp 9) _ rfl w.heap.size 3 i0 _ 1 8 Try.underlying24 hi hz0 hz1 hz2 rfl (by decide) _ j (List.replicate j (.int .i64 1)) rfl (World.ownsRow.alloc HO2.out _) ⟨_, 0, none⟩ 1 1 [.int .i64 1] rfl rfl (World.news_of_block (cs := #[.int .i64 1]) (t := 3) (fr := (0, 0)) (heap_alloc_new _ _)) (by simp [Value.oneCell']) (by unfold maxLen; omega) (by omega) (by simp; omega) ?_; intro v' w3 hown' hgrow _)
      have HR : Hid (OwnInts w3 w.heap.size 3 v' (List.replicate (j + 1) 1)) := Lib.hid (by
        unfold OwnInts
        rw [List.length_replicate, List.map_replicate, List.replicate_succ']
        exact hown')
      have HB3 : Hid (Below w.heap.size w w3) := Lib.hid ((hb.alloc hbs _).grown hgrow (by simp; omega) fun k hk => (World.ownsRow.lt HO2.out k hk).1)
      clear hown' hgrow
      go_wp2
      go_roundw
      case rel => exact ⟨j + 1, by omega, by go_num, HR.out, HB3.out⟩
      case measure => simp [intOf]; omega
    · obtain rfl : j = p := by omega
      have hz : ((j - j : Nat) : Int) = 0 := by omega
      rw [hz]
      go_wp2
      go_ret
      exact ⟨_, rfl, HO.out, hb⟩
theorem specLeastWork_any (A0 : Option Addr) (c0 : Nat) (L0 : List Int) (a1 : Int) (w : World) (l0 : L0.length ≤ 1048576) (_ : WfL L0) (q0 : L0.length ≤ c0) (h0 : IntSl w A0 L0) (_ : (Lit.int .i64 a1).wf = true) :
    Calls Try.prog 60 #[.slice A0 L0.length c0, .int .i64 a1] w fun e w' => e = .returned (.tuple #[.int .i64 (resLW L0 a1), .bool (okWP L0 a1)]) ∧ Below w.heap.size w w' := by
  have HP := Lib.hid (shPainters_any A0 c0 L0 a1 w l0 h0)
  cases hok : okWP L0 a1
  · rw [show resLW L0 a1 = 0 by unfold resLW; rw [hok]; rfl]
    rw [hok] at HP
    clear hok
    go_enter Try.func60, Try.ntmps60
    go_wp2_with (go_at_call 105; refine HP.out.mono ?_; rintro e w1 ⟨rfl, rfl⟩)
    go_ret2
    exact ⟨rfl, Below.refl _ _⟩
  · rw [show resLW L0 a1 = leastT L0 (onesR a1) by unfold resLW; rw [if_pos hok]]
    obtain ⟨hw, hp1, hp5⟩ := okWP_w hok
    have hp : okP a1 = true := by unfold okP; rw [decide_eq_true ⟨hp1, hp5⟩]
    rw [hok] at HP
    obtain ⟨ho, hl, -, -⟩ := onesR_ok hp
    have HL := Lib.hid fun W A c x y => shLeast0_any A0 c0 L0 A c (onesR a1) W hw ho q0 x y
    rw [hl] at HL
    obtain ⟨p, rfl⟩ : ∃ p : Nat, a1 = p := ⟨a1.toNat, by omega⟩
    unfold onesR at HL ⊢
    rw [Int.toNat_natCast] at HL ⊢
    have HA := Lib.hid fun W => shSame_any p W (by omega)
    have H0 := Lib.hid h0
    obtain ⟨ra, hra⟩ : ∃ a, a = leastT L0 (List.replicate p 1) := ⟨_, rfl⟩
    rw [← hra] at HL ⊢
    clear hp ho hl hra h0 hok hw
    go_enter Try.func60, Try.ntmps60
    go_wp2_with (first
      | (go_at_call 105; refine HP.out.mono ?_; rintro e w1 ⟨rfl, rfl⟩)
      | (go_at_call 108; refine (HA.out _).mono ?_; rintro e w1 ⟨v, rfl, hown, hb⟩; unfold OwnInts at hown; rw [List.length_replicate] at hown; obtain ⟨A, c, rfl⟩ := own_any hown)
      | (go_at_call 79; refine (HL.out _ _ _ (H0.out.below hb) (IntSl.of_own (by unfold OwnInts; rw [List.length_replicate]; exact hown))).mono ?_; rintro e w1 ⟨rfl, q, rfl⟩))
    go_ret2
    exact ⟨rfl, below_drewN hb _⟩
end Go.Proofs.Yteiaidjknnbpjaa

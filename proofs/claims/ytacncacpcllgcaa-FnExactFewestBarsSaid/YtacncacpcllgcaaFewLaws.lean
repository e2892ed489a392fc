/- FirstCut and FewestBars of the model. No condition but the lists' lengths. -/
import Derived.Test.YtacncacpcllgcaaPoFew
namespace Go.Proofs.Ytacncacpcllgcaa
open Go.RowKit

def cutR (L : List Int) (bar : Int) : List Int := if okFit L bar = true then (fewR L bar).1 else []
def barsR (L : List Int) (bar : Int) : Int := if okFit L bar = true then ((fewR L bar).2 : Nat) else 0
theorem fewM_len {L : List Int} {bar : Int} : ∀ {f b : Nat}, (fewM L bar f b).1.length = L.length
  | 0, b => upFrom_len 0 _
  | f + 1, b => by
    unfold fewM
    cases h : cutM L (List.replicate b bar) with
    | some c => exact cutM_len h
    | none => exact fewM_len
theorem cutR_len (L : List Int) (bar : Int) : (cutR L bar).length ≤ 1048576 := by
  unfold cutR
  split
  · next h =>
    have h1 := okRa_len (okFit_at h).1
    have h2 : (fewR L bar).1.length = L.length := fewM_len
    omega
  · exact Nat.zero_le _

set_option maxHeartbeats 1000000 in
theorem specFirstCut_any (A0 : Option Addr) (c0 : Nat) (L0 : List Int) (a1 : Int) (w : World) (l0 : L0.length ≤ 1048576) (_ : WfL L0) (_ : L0.length ≤ c0) (h0 : IntSl w A0 L0) (_ : (Lit.int .i64 a1).wf = true) :
    Calls Try.prog 56 #[.slice A0 L0.length c0, .int .i64 a1] w fun e w' => ∃ v, e = .returned (.tuple #[v, .bool (okFit L0 a1)]) ∧ OwnInts w' w.heap.size 3 v (cutR L0 a1) ∧ Below w.heap.size w w' := by
  have HP := Lib.hid (poFits_any A0 c0 L0 a1 w l0 h0)
  cases hok : okFit L0 a1
  · rw [show cutR L0 a1 = [] by unfold cutR; rw [hok]; rfl]
    rw [hok] at HP
    clear hok h0
    go_enter Try.func56, Try.ntmps56
    go_wp2_with fail
    refine HP.out.mono ?_
    rintro e w1 ⟨rfl, rfl⟩
    go_wp2
    go_ret2
    exact ⟨_, rfl, OwnInts.nil _ _ _, Below.refl _ _⟩
  · rw [show cutR L0 a1 = (fewR L0 a1).1 by unfold cutR; rw [hok]; rfl]
    rw [hok] at HP
    obtain ⟨hr, hb, hL⟩ := okFit_at hok
    obtain ⟨hl1, hl8⟩ := okRa_len hr
    have hbb := okL_at hb
    have HF := Lib.hid (poFewest_any A0 c0 L0 a1 w hl1 hl8 (fun x hx => by have := okRa_mem hr x hx; omega) (by omega) h0)
    clear hok h0 hr hb hL
    go_enter Try.func56, Try.ntmps56
    go_wp2_with fail
    refine HP.out.mono ?_
    rintro e w1 ⟨rfl, rfl⟩
    go_wp2_with fail
    refine HF.out.mono ?_
    rintro e w2 ⟨v, rfl, hown, hb⟩
    go_wp2
    go_ret2
    exact ⟨_, rfl, hown, hb⟩
set_option maxHeartbeats 1000000 in
theorem specFewestBars_any (A0 : Option Addr) (c0 : Nat) (L0 : List Int) (a1 : Int) (w : World) (l0 : L0.length ≤ 1048576) (_ : WfL L0) (_ : L0.length ≤ c0) (h0 : IntSl w A0 L0) (_ : (Lit.int .i64 a1).wf = true) :
    Calls Try.prog 54 #[.slice A0 L0.length c0, .int .i64 a1] w fun e w' => e = .returned (.tuple #[.int .i64 (barsR L0 a1), .bool (okFit L0 a1)]) ∧ Below w.heap.size w w' := by
  have HP := Lib.hid (poFits_any A0 c0 L0 a1 w l0 h0)
  cases hok : okFit L0 a1
  · rw [show barsR L0 a1 = 0 by unfold barsR; rw [hok]; rfl]
    rw [hok] at HP
    clear hok h0
    go_enter Try.func54, Try.ntmps54
    go_wp2_with fail
    refine HP.out.mono ?_
    rintro e w1 ⟨rfl, rfl⟩
    go_wp2
    go_ret2
    exact ⟨rfl, Below.refl _ _⟩
  · rw [show barsR L0 a1 = ((fewR L0 a1).2 : Nat) by unfold barsR; rw [hok]; rfl]
    rw [hok] at HP
    obtain ⟨hr, hb, hL⟩ := okFit_at hok
    obtain ⟨hl1, hl8⟩ := okRa_len hr
    have hbb := okL_at hb
    have HF := Lib.hid (poFewest_any A0 c0 L0 a1 w hl1 hl8 (fun x hx => by have := okRa_mem hr x hx; omega) (by omega) h0)
    clear hok h0 hr hb hL
    go_enter Try.func54, Try.ntmps54
    go_wp2_with fail
    refine HP.out.mono ?_
    rintro e w1 ⟨rfl, rfl⟩
    go_wp2_with fail
    refine HF.out.mono ?_
    rintro e w2 ⟨v, rfl, -, hb⟩
    go_wp2
    go_ret2
    exact ⟨rfl, hb⟩
end Go.Proofs.Ytacncacpcllgcaa

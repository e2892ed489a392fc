/- What every proof of this seat leans on: the step from a walk ('the law returns true and turns nothing below') to the given row, for arguments of any shape. No condition. -/
import Derived.Test.YteefkgnojdgehaaRows
import Derived.WalkKit
import Derived.WalkSpells
import Derived.WalkLawsBesides
import Derived.Lib.Hide
import Derived.BigQuiet
import Derived.Deep.QuietTactic
import Derived.ProofKit
import Derived.OpenShut
import Derived.ShutString
namespace Go.Proofs.Yteefkgnojdgehaa
open Go.ChangeShapes Go.WideShapes Go.ChangeAt Go.RowKit

theorem gOwn : ownKnob Try.prog.godebug = none := by kernel_rfl
theorem gLaid : laidOutB Try.prog = true := by kernel_rfl

/-- The dump's head, sign by sign: the kernel reads it once. -/
def headCodes : List Nat := [104, 97, 114, 110, 101, 115, 115, 32, 51, 99, 50, 99, 101, 97, 102, 101, 53, 55, 53, 49, 102, 55, 50, 57, 50, 56, 102, 53, 51, 98, 52, 57, 48, 101, 55, 48, 53, 48, 48, 48, 48, 51, 100, 52, 53, 52, 99, 102, 102, 100, 55, 56, 100, 50, 54, 56, 53, 102, 54, 52, 102, 50, 97, 97, 53, 54, 49, 97, 102, 48, 101, 54, 32, 99, 117, 116, 32, 97, 116, 32, 108, 111, 111, 112, 46, 101, 120, 97, 109, 112, 108, 101, 47, 103, 48, 49, 51, 55, 51, 47, 108, 97, 119, 115, 46, 70, 110, 69, 120, 97, 99, 116, 70, 105, 114, 115, 116, 80, 114, 111, 112, 101, 114, 32, 108, 111, 111, 112, 46, 101, 120, 97, 109, 112, 108, 101, 47, 103, 48, 49, 51, 55, 51, 47, 108, 97, 119, 115, 46, 70, 110, 69, 120, 97, 99, 116, 80, 114, 111, 112, 101, 114, 79, 102, 82, 97, 110, 107, 32, 108, 111, 111, 112, 46, 101, 120, 97, 109, 112, 108, 101, 47, 103, 48, 49, 51, 55, 51, 47, 108, 97, 119, 115, 46, 70, 110, 69, 120, 97, 99, 116, 67, 111, 117, 110, 116, 76, 105, 115, 116, 101, 100, 32, 108, 111, 111, 112, 46, 101, 120, 97, 109, 112, 108, 101, 47, 103, 48, 49, 51, 55, 51, 47, 108, 97, 119, 115, 46, 70, 110, 69, 120, 97, 99, 116, 70, 105, 114, 115, 116, 76, 105, 115, 116, 101, 100, 32, 108, 111, 111, 112, 46, 101, 120, 97, 109, 112, 108, 101, 47, 103, 48, 49, 51, 55, 51, 47, 108, 97, 119, 115, 46, 70, 110, 69, 120, 97, 99, 116, 70, 105, 114, 115, 116, 67, 104, 101, 97, 112, 101, 115, 116, 32, 108, 111, 111, 112, 46, 101, 120, 97, 109, 112, 108, 101, 47, 103, 48, 49, 51, 55, 51, 47, 108, 97, 119, 115, 46, 70, 110, 69, 120, 97, 99, 116, 70, 105, 108, 108, 80, 114, 111, 112, 101, 114, 32, 108, 111, 111, 112, 46, 101, 120, 97, 109, 112, 108, 101, 47, 103, 48, 49, 51, 55, 51, 47, 108, 97, 119, 115, 46, 70, 110, 69, 120, 97, 99, 116, 67, 111, 117, 110, 116, 70, 105, 108, 108, 115, 32, 108, 111, 111, 112, 46, 101, 120, 97, 109, 112, 108, 101, 47, 103, 48, 49, 51, 55, 51, 47, 108, 97, 119, 115, 46, 70, 110, 69, 120, 97, 99, 116, 70, 101, 119, 101, 115, 116, 82, 101, 112, 97, 105, 110, 116, 115, 32, 108, 111, 111, 112, 46, 101, 120, 97, 109, 112, 108, 101, 47, 103, 48, 49, 51, 55, 51, 47, 108, 97, 119, 115, 46, 70, 110, 69, 120, 97, 99, 116, 70, 105, 114, 115, 116, 82, 101, 112, 97, 105, 110, 116, 101, 100]
theorem headIs : Try.prog.initOrder = String.ofList (headCodes.map Char.ofNat) := by kernel_rfl
theorem headList : Try.prog.initOrder.toList = headCodes.map Char.ofNat := by rw [headIs]; exact String.toList_ofList
theorem enterAt (x : String) (hx : x.toList = headCodes.map Char.ofNat) : ({ Try.prog with initOrder := x } : Program).mayEnter = true := by
  unfold Program.mayEnter
  rw [hx]
  kernel_rfl
theorem gEnter : Try.prog.mayEnter = true := enterAt Try.prog.initOrder headList
theorem finalAt (x : String) (hx : x.toList = headCodes.map Char.ofNat) : ({ Try.prog with initOrder := x } : Program).liftsFinal = false := by
  unfold Program.liftsFinal Program.headLifts
  rw [hx]
  kernel_rfl
theorem gFinal : Try.prog.liftsFinal = false := finalAt Try.prog.initOrder headList
theorem makeAt (x : String) (hx : x.toList = headCodes.map Char.ofNat) : ({ Try.prog with initOrder := x } : Program).make = some .cut := by
  unfold Program.make
  rw [hx]
  kernel_rfl
theorem gMake : Try.prog.make = some .cut := makeAt Try.prog.initOrder headList
theorem gMaps : mapsRowed Try.prog = true := by kernel_rfl
theorem gStops : (Try.prog.stops == []) = true := by kernel_rfl
theorem gKnobs : (Try.prog.stopKnobs == []) = true := by kernel_rfl
theorem gHeard : Try.prog.stopsHeard = true := by kernel_rfl
theorem gBand {a b : Bool} (h : a = true) (k : b = true) : (a && b) = true := by rw [h, k]; rfl
theorem gFinalEq {b : Bool} (h : b = false) : (b == Try.prog.liftsFinal) = true := by rw [gFinal, h]; rfl
theorem gMakeEq {m : Make} (h : m = .cut) : (Try.prog.make == some m) = true := by rw [gMake, h]; rfl

theorem trodAll_below {H : Type} {enc : TypeId × Value → H} {W W' : World} (hb : Below W.heap.size W W') :
    ∀ {ts : List TypeId} {vs : List Value} {ds : List (DataW H)} {ps : List MemPlace}, DataW.TrodAll enc Try.prog W 0 (fun _ => true) true ts vs ds ps →
      (∀ t ∈ ts, Try.prog.readableRec t = true ∧ t < Try.prog.types.size) → (∀ x ∈ ps, x.block < W.heap.size) →
      DataW.TrodAll enc Try.prog W' 0 (fun b => decide (b < W.heap.size)) true ts vs ds ps
  | [], _, _, _, h, _, _ => by
    obtain ⟨rfl, rfl, rfl⟩ := trodAll_nil h
    exact trodAll_mk0
  | t :: _, _, _, _, h, hr, hlt => by
    obtain ⟨v, vs1, d, ds1, a, b, rfl, rfl, rfl, h1, h2⟩ := trodAll_cons h
    exact trodAll_cons_mk (Below.trod gLaid (hr t (by simp)).1 (hr t (by simp)).2 h1 hb (fun x hx => hlt x (by simp [hx])))
      (trodAll_below hb h2 (fun u hu => hr u (by simp [hu])) (fun x hx => hlt x (by simp [hx])))

/-- The law returned true and nothing below has turned: this is what the row asks. -/
theorem law_post {H : Type} {enc : TypeId × Value → H} {f : Func} {s : ChangeSpec} {W W' : World} {args : Array Value} {ds gs : List (DataW H)} {before : List MemPlace} {tb : TypeId}
    (hW : DataW.Whole enc Try.prog f.params.toList s.vars false W args.toList ds gs before) (hb : Below W.heap.size W W') (hv : s.vars = [])
    (hrt : f.resultTypes = #[tb]) (htb : Try.prog.underlying tb = some .bool)
    (hr : ∀ t ∈ f.params.toList, Try.prog.readableRec t = true ∧ t < Try.prog.types.size)
    (h1 : (s.fn H (ds ++ [])).results = [.lit (.bool true)]) (h2 : (s.fn H (ds ++ [])).args = ds) (h3 : (s.fn H (ds ++ [])).vars = []) :
    s.post enc Try.prog f false true false false W args (.bool true) W' := by
  have hlt := DataW.Whole.lt hW
  have hW' := hW
  obtain ⟨p, q, hA, hV, rfl, _, _⟩ := hW
  rw [hv] at hV
  obtain ⟨rfl, rfl⟩ := trodVars_none hV
  refine ⟨ds, [], _, [], p, [], hW', ?_, ?_, ?_, hb.frame _, fun h => by cases h⟩
  · rw [hrt, h1]
    exact trodAll_mk1 (shut_bool htb _)
  · rw [h2]
    exact trodAll_below hb hA hr (fun x hx => hlt x (by simp [hx]))
  · rw [hv, h3]
    exact rfl
end Go.Proofs.Yteefkgnojdgehaa

/- What every proof of this seat leans on: the step from a walk ('the law returns true and turns nothing below') to the given row, for arguments of any shape. No condition. -/
import Derived.Test.YtbocdhibimcobaaDoorRows
import Derived.WalkKit
import Derived.WalkSpells
import Derived.WalkLawsBesides
import Derived.Lib.Hide
import Derived.BigQuiet
import Derived.Deep.QuietTactic
import Derived.ProofKit
import Derived.OpenShut
import Derived.ShutString
namespace Go.Proofs.YtbocdhibimcobaaDoor
open Go.ChangeShapes Go.WideShapes Go.ChangeAt Go.RowKit

theorem gOwn : ownKnob Tryd.prog.godebug = none := by kernel_rfl
theorem gLaid : laidOutB Tryd.prog = true := by kernel_rfl

/-- The dump's head, sign by sign: the kernel reads it once. -/
def headCodes : List Nat := [104, 97, 114, 110, 101, 115, 115, 32, 54, 56, 56, 49, 57, 52, 55, 100, 52, 57, 50, 98, 51, 55, 97, 48, 102, 55, 99, 99, 53, 51, 57, 48, 50, 55, 57, 54, 53, 97, 52, 53, 98, 98, 49, 49, 48, 100, 97, 56, 98, 53, 51, 50, 98, 57, 100, 98, 99, 55, 101, 100, 49, 99, 55, 55, 51, 52, 57, 54, 97, 49, 51, 102, 32, 99, 117, 116, 32, 97, 116, 32, 108, 111, 111, 112, 46, 101, 120, 97, 109, 112, 108, 101, 47, 103, 48, 49, 51, 55, 51, 47, 108, 97, 119, 115, 46, 70, 110, 69, 120, 97, 99, 116, 71, 97, 116, 101, 115, 84, 101, 120, 116, 32, 108, 111, 111, 112, 46, 101, 120, 97, 109, 112, 108, 101, 47, 103, 48, 49, 51, 55, 51, 47, 108, 97, 119, 115, 46, 70, 110, 69, 120, 97, 99, 116, 80, 97, 114, 115, 101, 71, 97, 116, 101, 115, 32, 108, 111, 111, 112, 46, 101, 120, 97, 109, 112, 108, 101, 47, 103, 48, 49, 51, 55, 51, 47, 108, 97, 119, 115, 46, 70, 110, 69, 120, 97, 99, 116, 87, 105, 100, 116, 104, 115, 84, 101, 120, 116, 32, 108, 111, 111, 112, 46, 101, 120, 97, 109, 112, 108, 101, 47, 103, 48, 49, 51, 55, 51, 47, 108, 97, 119, 115, 46, 70, 110, 69, 120, 97, 99, 116, 80, 97, 114, 115, 101, 87, 105, 100, 116, 104, 115, 32, 108, 111, 111, 112, 46, 101, 120, 97, 109, 112, 108, 101, 47, 103, 48, 49, 51, 55, 51, 47, 108, 97, 119, 115, 46, 70, 110, 69, 120, 97, 99, 116, 82, 97, 105, 108, 115, 84, 101, 120, 116, 32, 108, 111, 111, 112, 46, 101, 120, 97, 109, 112, 108, 101, 47, 103, 48, 49, 51, 55, 51, 47, 108, 97, 119, 115, 46, 70, 110, 69, 120, 97, 99, 116, 80, 97, 114, 115, 101, 82, 97, 105, 108, 115, 32, 108, 111, 111, 112, 46, 101, 120, 97, 109, 112, 108, 101, 47, 103, 48, 49, 51, 55, 51, 47, 108, 97, 119, 115, 46, 70, 110, 69, 120, 97, 99, 116, 72, 101, 105, 103, 104, 116, 115, 84, 101, 120, 116, 32, 108, 111, 111, 112, 46, 101, 120, 97, 109, 112, 108, 101, 47, 103, 48, 49, 51, 55, 51, 47, 108, 97, 119, 115, 46, 70, 110, 69, 120, 97, 99, 116, 80, 97, 114, 115, 101, 72, 101, 105, 103, 104, 116, 115]
theorem headIs : Tryd.prog.initOrder = String.ofList (headCodes.map Char.ofNat) := by kernel_rfl
theorem headList : Tryd.prog.initOrder.toList = headCodes.map Char.ofNat := by rw [headIs]; exact String.toList_ofList
theorem enterAt (x : String) (hx : x.toList = headCodes.map Char.ofNat) : ({ Tryd.prog with initOrder := x } : Program).mayEnter = true := by
  unfold Program.mayEnter
  rw [hx]
  kernel_rfl
theorem gEnter : Tryd.prog.mayEnter = true := enterAt Tryd.prog.initOrder headList
theorem finalAt (x : String) (hx : x.toList = headCodes.map Char.ofNat) : ({ Tryd.prog with initOrder := x } : Program).liftsFinal = false := by
  unfold Program.liftsFinal Program.headLifts
  rw [hx]
  kernel_rfl
theorem gFinal : Tryd.prog.liftsFinal = false := finalAt Tryd.prog.initOrder headList
theorem makeAt (x : String) (hx : x.toList = headCodes.map Char.ofNat) : ({ Tryd.prog with initOrder := x } : Program).make = some .cut := by
  unfold Program.make
  rw [hx]
  kernel_rfl
theorem gMake : Tryd.prog.make = some .cut := makeAt Tryd.prog.initOrder headList
theorem gMaps : mapsRowed Tryd.prog = true := by kernel_rfl
theorem gStops : (Tryd.prog.stops == []) = true := by kernel_rfl
theorem gKnobs : (Tryd.prog.stopKnobs == []) = true := by kernel_rfl
theorem gHeard : Tryd.prog.stopsHeard = true := by kernel_rfl
theorem gBand {a b : Bool} (h : a = true) (k : b = true) : (a && b) = true := by rw [h, k]; rfl
theorem gFinalEq {b : Bool} (h : b = false) : (b == Tryd.prog.liftsFinal) = true := by rw [gFinal, h]; rfl
theorem gMakeEq {m : Make} (h : m = .cut) : (Tryd.prog.make == some m) = true := by rw [gMake, h]; rfl

theorem trodAll_below {H : Type} {enc : TypeId × Value → H} {W W' : World} (hb : Below W.heap.size W W') :
    ∀ {ts : List TypeId} {vs : List Value} {ds : List (DataW H)} {ps : List MemPlace}, DataW.TrodAll enc Tryd.prog W 0 (fun _ => true) true ts vs ds ps →
      (∀ t ∈ ts, Tryd.prog.readableRec t = true ∧ t < Tryd.prog.types.size) → (∀ x ∈ ps, x.block < W.heap.size) →
      DataW.TrodAll enc Tryd.prog W' 0 (fun b => decide (b < W.heap.size)) true ts vs ds ps
  | [], _, _, _, h, _, _ => by
    obtain ⟨rfl, rfl, rfl⟩ := trodAll_nil h
    exact trodAll_mk0
  | t :: _, _, _, _, h, hr, hlt => by
    obtain ⟨v, vs1, d, ds1, a, b, rfl, rfl, rfl, h1, h2⟩ := trodAll_cons h
    exact trodAll_cons_mk (Below.trod gLaid (hr t (by simp)).1 (hr t (by simp)).2 h1 hb (fun x hx => hlt x (by simp [hx])))
      (trodAll_below hb h2 (fun u hu => hr u (by simp [hu])) (fun x hx => hlt x (by simp [hx])))

/-- The law returned true and nothing below has turned: this is what the row asks. -/
theorem law_post {H : Type} {enc : TypeId × Value → H} {f : Func} {s : ChangeSpec} {W W' : World} {args : Array Value} {ds gs : List (DataW H)} {before : List MemPlace} {tb : TypeId}
    (hW : DataW.Whole enc Tryd.prog f.params.toList s.vars false W args.toList ds gs before) (hb : Below W.heap.size W W') (hv : s.vars = [])
    (hrt : f.resultTypes = #[tb]) (htb : Tryd.prog.underlying tb = some .bool)
    (hr : ∀ t ∈ f.params.toList, Tryd.prog.readableRec t = true ∧ t < Tryd.prog.types.size)
    (h1 : (s.fn H (ds ++ [])).results = [.lit (.bool true)]) (h2 : (s.fn H (ds ++ [])).args = ds) (h3 : (s.fn H (ds ++ [])).vars = []) :
    s.post enc Tryd.prog f false true false false W args (.bool true) W' := by
  have hlt := DataW.Whole.lt hW
  have hW' := hW
  obtain ⟨p, q, hA, hV, rfl, _, _⟩ := hW
  rw [hv] at hV
  obtain ⟨rfl, rfl⟩ := trodVars_none hV
  refine ⟨ds, [], _, [], p, [], hW', ?_, ?_, ?_, hb.frame _, fun h => by cases h⟩
  · rw [hrt, h1]
    exact trodAll_mk1 (shut_bool htb _)
  · rw [h2]
    exact trodAll_below hb hA hr (fun x hx => hlt x (by simp [hx]))
  · rw [hv, h3]
    exact rfl
end Go.Proofs.YtbocdhibimcobaaDoor

/- FnExactParseGates: for every argument the law returns true, and the argument reads behind the call as before. The library's listed variables read as they are laid: the row's own condition; the card ties them to the program's text. -/
import Derived.Test.YtbocdhibimcobaaDoorGParseGates
import Derived.Test.YtbocdhibimcobaaDoorTie
import Derived.Test.YtbocdhibimcobaaDoorCards
import Derived.LaidMore
import Derived.LaidHandle
import Derived.MakeChecks
import Derived.Lib.LaidTab
import Derived.SevenTiedAt
import Derived.Stop.LaidErr
import Derived.Handed
namespace Go.Proofs.YtbocdhibimcobaaDoor
open Go.ChangeShapes Go.WideShapes Go.ChangeAt Go.RowKit Go.Proofs.YtbocdhibimcobaaDoor.Ga
open Go.ChangeMaps (open_string shut_string)

/-- the settled world, the listed variables laid -/
def putTabP (k : IntKind) (zs : List Int) : Obj → Obj
  | .cells _ t frozen => .cells (zs.map fun z => Value.int k z).toArray t frozen
  | o => o
def putErrP (b : Nat) : Obj → Obj
  | .cells _ t frozen => .cells #[.iface 95 (.pointer (some ⟨b, 0, none⟩))] t frozen
  | o => o
def oneP : DataW Unit → List Int
  | .lit (.int _ z) => [z]
  | .agg ps => ps.flatMap fun | .lit (.int _ z) => [z] | _ => []
  | _ => []
def flatP : DataW Unit → List Int
  | .agg ps => ps.flatMap oneP
  | _ => []
def synP : ByteArray := { data := #[105, 110, 118, 97, 108, 105, 100, 32, 115, 121, 110, 116, 97, 120] }
def rngP : ByteArray := { data := #[118, 97, 108, 117, 101, 32, 111, 117, 116, 32, 111, 102, 32, 114, 97, 110, 103, 101] }
noncomputable def lowP : Nat := (World.holding Tryd.prog default ⟨#[], #[], []⟩).heap.size
noncomputable def laidWorldP (os : Os) : World :=
  let w0 := World.holding Tryd.prog os ⟨#[.cells #[.string synP] 97, .cells #[.string rngP] 97], #[], []⟩
  { w0 with heap := ((((((w0.heap.modify 6 (putTabP .u8 (flatP Rows.laid_math_bits_deBruijn32tab))).modify 7 (putTabP .u8 (flatP Rows.laid_math_bits_deBruijn64tab))).modify 2 (putTabP .u64 Lib.pow10Tab)).modify 5 (putTabP .u8 (flatP Rows.laid_unicode_utf8_acceptRanges))).modify 4 (putTabP .u8 (flatP Rows.laid_unicode_utf8_first))).modify 0 (putErrP lowP)).modify 1 (putErrP (lowP + 1)) }
theorem laid_metP (os : Os) (args : Array Value) : laidMetH Tryd.prog Rows.fnExactParseGatesRow.laid ((laidWorldP os).forCall (fun _ _ => 0) ⟨#[], args, []⟩).memory := by
  rw [MakeChecks.laidMetH_plain _ _ _ (by kernel_rfl)]
  exact laidMet_of_run' 8 (by kernel_rfl) (by kernel_rfl)
theorem gPowP : Tryd.prog.globalNamed "internal/strconv.uint64pow10" = some 2 := by kernel_rfl
theorem gPowTypeP : (Tryd.prog.globals[2]?).map (·.type) = some 90 := by kernel_rfl
theorem gSyn : Tryd.prog.globalNamed "strconv.ErrSyntax" = some 0 := by kernel_rfl
theorem gSynType : (Tryd.prog.globals[0]?).map (·.type) = some 47 := by kernel_rfl
theorem gRng : Tryd.prog.globalNamed "strconv.ErrRange" = some 1 := by kernel_rfl
theorem gRngType : (Tryd.prog.globals[1]?).map (·.type) = some 47 := by kernel_rfl
theorem starP : "*" ++ "errors.errorString" = "*errors.errorString" := by decide
theorem rowP (u : TypeId) (h : Tryd.prog.typeName? 3 u = some "*errors.errorString") : u = 95 :=
  typeName_ptr_named (nm := "errors.errorString") (by rw [starP]; kernel_rfl) (by kernel_rfl) (by decide) u (by rw [starP]; exact h)
theorem env_of {W : World} (h : laidMetH Tryd.prog Rows.fnExactParseGatesRow.laid W) (hsh : W.ShapedOpen Tryd.prog) : Env W.heap.size W := by
  rw [MakeChecks.laidMetH_plain _ _ _ (by kernel_rfl)] at h
  have htab : Lib.TabIs Tryd.prog W "internal/strconv.uint64pow10" .u64 Lib.pow10Tab := Lib.tabIs_of_head gPowP gPowTypeP Tryd.underlying90 Tryd.underlying70 (by kernel_rfl) (by kernel_rfl) h.tail.tail
  obtain ⟨a0, s0, hv0, -, -, -⟩ := laid_sentinel h.tail.tail.tail.tail gRng gRngType Tryd.underlying47 rowP Tryd.underlying95 Tryd.underlying97 rfl rfl Tryd.underlying9 (by kernel_rfl) (by kernel_rfl)
  obtain ⟨a1, s1, hv1, -, -, -⟩ := laid_sentinel h.tail.tail.tail.tail.tail gSyn gSynType Tryd.underlying47 rowP Tryd.underlying95 Tryd.underlying97 rfl rfl Tryd.underlying9 (by kernel_rfl) (by kernel_rfl)
  obtain ⟨m, hm⟩ : ∃ m, W.cell? ⟨3, 0, none⟩ = some (.int .i64 m) := Go.Proofs.cell_of_shapedOpen_int (zero := #[.int .i64 0]) (t := 3) hsh (of_decide_eq_true (by kernel_rfl)) (by kernel_rfl) rfl (by kernel_rfl) (by kernel_rfl) Tryd.underlying3
  have c0 : W.cell? ⟨1, 0, none⟩ = some (.iface 95 (.pointer (some a0))) := by have h0 := World.var?_cell gRng hv0 0; simpa using h0
  have c1 : W.cell? ⟨0, 0, none⟩ = some (.iface 95 (.pointer (some a1))) := by have h0 := World.var?_cell gSyn hv1 0; simpa using h0
  exact ⟨Lib.tabBelow_of_tabIs htab, ⟨m, World.block_lt_of_cell? W _ hm, hm⟩, ⟨_, _, World.block_lt_of_cell? W _ c1, c1⟩, ⟨_, _, World.block_lt_of_cell? W _ c0, c0⟩⟩

set_option maxRecDepth 100000 in
theorem fnExactParseGates_lifted (os : Os) (started : os.Started) (H : Type) (enc : TypeId × Value → H) :
    ReturnsInHanded {} Tryd.checked os 4 .any (fun w args => (Rows.fnExactParseGatesSpec.pre enc Tryd.prog Tryd.f4 [] false w args ∧ laidMetH Tryd.prog Rows.fnExactParseGatesRow.laid w) ∧ sizedMet enc Tryd.prog Tryd.f4 (OpenSpec.ofChange Rows.fnExactParseGatesSpec) false w args)
      (Rows.fnExactParseGatesSpec.post enc Tryd.prog Tryd.f4 false true false false) := by
  refine returnsInHanded_of_calls (C := Tryd.checked) gOwn started (by kernel_rfl)
    (ChangeSpec.witness_at (enc := enc) (C := Tryd.checked) (os := os) (X := fun w _ => laidMetH Tryd.prog Rows.fnExactParseGatesRow.laid w) false (laidWorldP os) #[.string ByteArray.empty] 8 rfl (by kernel_rfl) (by kernel_rfl) (by kernel_rfl) (by kernel_rfl) (by kernel_rfl) (laid_metP os _)) ?_
  intro w tape i _ hsh _ hok hpre _
  obtain ⟨_, _, _, fn', hfn', _, _, _, _, hval0⟩ := hok
  obtain rfl : Tryd.f4 = fn' := Option.some.inj (Tryd.func4.symm.trans hfn')
  obtain ⟨⟨⟨ds, gs, before, hw0, _⟩, hL0⟩, _⟩ := hpre
  have hL : laidMetH Tryd.prog Rows.fnExactParseGatesRow.laid (w.forCall tape i) := hL0.of_heap (by rfl)
  have hW := DataW.Whole.of_heap (w' := w.forCall tape i) (by rfl) hw0
  obtain ⟨args, hargs0⟩ : ∃ args, args = i.args := ⟨_, rfl⟩
  rw [← hargs0] at hW ⊢
  have hval : ∀ (j : Nat) t v, Tryd.f4.params[j]? = some t → args[j]? = some v → Value.okWide Tryd.prog (w.forCall tape i) .any w.heap.size t v := fun j t v h1 h2 => hval0 j t v h1 (by rw [← hargs0]; exact h2)
  have hW' := hW
  obtain ⟨p, q, hA0, _, rfl, _, _⟩ := hW'
  have hA : DataW.TrodAll enc Tryd.prog (w.forCall tape i) 0 (fun _ => true) true Tryd.f4.params.toList args.toList ds p := hA0
  rw [Tryd.params4] at hA hval
  obtain ⟨v0, vs0, d0, ds0, p0, q0, hargs, rfl, rfl, h0, r0⟩ := trodAll_cons hA
  obtain ⟨rfl, rfl, rfl⟩ := trodAll_nil r0
  obtain rfl : args = #[v0] := by cases args; simp_all
  obtain ⟨s0, rfl, rfl, rfl, z0⟩ := open_string Tryd.underlying9 (hval 0 9 v0 rfl rfl) h0
  refine (lawParseGates_walk s0 _ z0 (env_of hL hsh)).mono fun e W' ⟨he, hb⟩ => ?_
  subst he
  exact ChangeSpec.post_blind (law_post hW hb rfl (by kernel_rfl) Tryd.underlying4 (by rw [Tryd.params4]; intro t ht; simp only [List.mem_cons, List.not_mem_nil, or_false] at ht; rcases ht with rfl; exact ⟨by kernel_rfl, of_decide_eq_true (by kernel_rfl)⟩) rfl rfl rfl)

theorem fnExactParseGates_facts : joinedFacts Tryd.prog 4 Tryd.f4 Rows.fnExactParseGatesSpec Rows.fnExactParseGatesRow = true := by
  unfold joinedFacts
  repeat' (with_reducible refine gBand ?_ ?_)
  all_goals first | with_reducible exact gLaid | with_reducible exact gMaps | with_reducible exact gStops | with_reducible exact gKnobs | with_reducible exact gHeard | with_reducible exact gEnter | with_reducible exact gFinalEq (by kernel_rfl) | with_reducible exact gMakeEq (by kernel_rfl) | (as_aux_lemma => kernel_rfl)

theorem fnExactParseGates_holds : Rows.FnExactParseGatesSaid :=
  OpenClaim.holds_of_wide 4 Tryd.f4 rfl rfl rfl rfl rfl rfl rfl ⟨rfl, rfl, rfl, rfl, rfl⟩ rfl rfl rfl rfl rfl (by as_aux_lemma => kernel_rfl) Tryd.func4 fnExactParseGates_facts
    (of_decide_eq_true (by as_aux_lemma => kernel_rfl)) (by unfold Func.isWrapper; rw [if_neg (by decide +kernel)]; exact ⟨rfl, rfl⟩)
    (fun os started H enc _ => fnExactParseGates_lifted os started H enc)

/-- the card: the row, its listed variables tied to the program's text -/
theorem fnExactParseGates_card : Rows.FnExactParseGatesCardSaid := by
  unfold Rows.FnExactParseGatesCardSaid Rows.fnExactParseGatesCard
  exact Claim7.holds_tied_plain_at .later [] [.data, .data, .data, .data, .sentinel, .sentinel, .pinned] true _ true
    fnExactParseGates_holds (fun _ h => by cases h) (by kernel_rfl) (fun _ h => by cases h) fnExactParseGates_row_tie rfl ⟨rfl, rfl⟩ (by kernel_rfl) rfl
    (fun f fn hf hfn => by
      obtain rfl : f = 4 := Option.some.inj ((show Tryd.prog.funcNamed "loop.example/g01373/laws.FnExactParseGates" = some 4 by kernel_rfl).symm.trans hf) |>.symm
      obtain rfl : fn = Tryd.f4 := (Option.some.inj (Tryd.func4.symm.trans hfn)).symm
      exact ⟨by kernel_rfl, fun j t ht => by
        rw [Tryd.params4] at ht
        have hm : t ∈ [9] := by simpa using Array.mem_of_getElem? ht
        have hall : ([9].all fun u => !Tryd.prog.wantsStandIn u) = true := by kernel_rfl
        exact (show Tryd.prog.wantsStandIn t = false by simpa using List.all_eq_true.1 hall t hm)⟩)
    (by kernel_rfl)
end Go.Proofs.YtbocdhibimcobaaDoor

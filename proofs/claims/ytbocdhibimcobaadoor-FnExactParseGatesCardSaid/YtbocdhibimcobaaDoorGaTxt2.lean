/- A list of numbers written as a text, by the program: 'impl.numbersText'. No condition but the numbers' sizes; the library's table of powers of ten reads as it is laid. -/
import Derived.Test.YtbocdhibimcobaaDoorGaTxt
import Derived.Test.YtbocdhibimcobaaDoorShelf
import Derived.Lib.AppendIntMem
namespace Go.Proofs.YtbocdhibimcobaaDoor.Ga
open Go.RowKit

/-- the library's table of powers of ten, whatever the call does with its own memory -/
def Tab (B : Nat) (w : World) : Prop := Lib.TabBelow Tryd.prog B w "internal/strconv.uint64pow10" .u64 Lib.pow10Tab
theorem Tab.on {B : Nat} {w w1 : World} (h : Tab B w) (hb : Below B w w1) : Tab B w1 := Lib.TabBelow.on h hb
theorem below_grow (w : World) (k : Nat) (os : Array Obj) : Below w.heap.size w (Sort.grow (w.drewN k) os) :=
  ⟨rfl, rfl, rfl, by show w.heap.size ≤ (w.heap ++ os).size; rw [Array.size_append]; omega, fun i hi => by
    show (w.heap ++ os)[i]? = _
    rw [Array.getElem?_append_left hi]⟩
theorem itoa_any {x : Int} (h : -9223372036854775808 ≤ x ∧ x ≤ 9223372036854775807) {B : Nat} (w : World) (ht : Tab B w) :
    Calls Tryd.prog 53 #[.int .i64 x] w fun e w' => e = .returned (.string (numB x)) ∧ Below w.heap.size w w' := by
  refine (Tryd.strconv_Itoa x h.1 h.2 w (Lib.TabBelow.here ht)).mono ?_
  rintro e w' ⟨rfl, k, os, rfl⟩
  exact ⟨rfl, below_grow _ _ _⟩
theorem strs_at (L : List Int) (j : Nat) (h : j < L.length) : ((L.map fun x => Value.string (numB x)))[j]? = some (.string (numB L[j])) := by
  rw [List.getElem?_map, List.getElem?_eq_getElem h]; rfl
theorem txt_size' {L : List Int} (hf : Few L) : (txtL L).length ≤ 140737488355328 := by
  obtain ⟨f1, f2, f3⟩ := hf
  have := txt_size f3 L.length (Nat.le_refl _)
  rw [List.take_length] at this
  have e : (txt L).size = (txtL L).length := by show (txtL L).toArray.size = _; simp
  omega
theorem join_any (g c : Nat) (L : List Int) (w : World) (hf : Few L) (hg : g < w.heap.size) (hc : L.length ≤ c) {b : Nat} (h : w.ownsRow b 9 1 (.slice (some ⟨g, 0, none⟩) L.length c) L.length (L.map fun x => Value.string (numB x))) :
    Calls Tryd.prog 54 #[.slice (some ⟨g, 0, none⟩) L.length c, .string ⟨#[124]⟩] w fun e w' => e = .returned (.string (txt L)) ∧ Below w.heap.size w w' := by
  have hm : (L.map numB).map (·.data.toList) = L.map Lib.itoa := by
    rw [List.map_map]; exact List.map_congr_left fun x _ => numB_list x
  have hsz := txt_size' hf
  have := Tryd.strings_Join g 0 c (L.map numB) ⟨#[124]⟩ w (by
    intro j x hx
    rw [List.getElem?_map] at hx
    by_cases hj : j < L.length
    · rw [List.getElem?_eq_getElem hj] at hx
      obtain rfl : numB L[j] = x := by simpa using hx
      rw [Nat.zero_add, h.cellAt j (by omega), strs_at L j hj]
    · rw [List.getElem?_eq_none (by omega)] at hx
      cases hx) hg (by rw [List.length_map]; have := hf.2.1; omega) (by rw [List.length_map]; exact hc) (by rw [hm]; exact hsz)
  rw [List.length_map, hm] at this
  exact this

theorem info_str : (Tryd.prog.info? 9).map (fun i => (i.zero, i.size, i.bytes)) = some (some (.string ⟨#[]⟩), 1, 16) := by kernel_rfl

set_option maxRecDepth 100000 in
set_option maxHeartbeats 2000000 in
theorem numbersText_any (A : Option Addr) (c : Nat) (L : List Int) (w : World) (hf : Few L) (h : IntSl w A L) (ht : Tab w.heap.size w) :
    Calls Tryd.prog 34 #[.slice A L.length c, .string ⟨#[124]⟩] w fun e w' => e = .returned (.string (txt L)) ∧ Below w.heap.size w w' := by
  obtain ⟨i0, hi, hz0, hz1, hz2⟩ := info_parts info_str
  have FF := Lib.hid hf
  obtain ⟨f1, f2, f3⟩ := hf
  have HX := Lib.hid f3
  have HT := Lib.hid ht
  obtain ⟨g, off, rfl, hg, hat⟩ := h.some (by omega)
  have HAT := Lib.hid hat
  have hm : ∀ j, j < L.length → j < L.length * 1 := fun j h => by omega
  have HM := Lib.hid hm
  clear hat h f3 ht hm
  go_enter Tryd.func34, Tryd.ntmps34
  go_wp2_with (at_make; refine wpList_make_full _ rfl (.tmp 9) (.tmp 9) _ rfl w.heap.size 9 i0 _ 1 Tryd.underlying35 hi hz0 hz1 .i64 .i64 _ _ L.length rfl rfl rfl rfl (by rw [hz2]; omega) (by unfold maxLen; omega) (Nat.le_refl _) ?_; intro w1 hown hgrow)
  have HF : Hid (Filled w w.heap.size 9 1 (.slice (some ⟨w.heap.size, 0, none⟩) L.length L.length) L.length (L.map fun x => Value.string (numB x)) 0 w1) := Lib.hid (Filled.made hown ((Below.refl _ _).grown hgrow (Nat.le_refl _) (fun k hk => by cases hk)))
  clear hown hgrow
  go_loopw [6, 7, 13] (fun _ _ i wr => ∃ j : Nat, j ≤ L.length ∧ i = .int .i64 j ∧ Filled w w.heap.size 9 1 (.slice (some ⟨w.heap.size, 0, none⟩) L.length L.length) L.length (L.map fun x => Value.string (numB x)) j wr) (fun _ _ i _ => L.length - (intOf i).toNat)
  case atStart => exact ⟨0, Nat.zero_le _, rfl, HF.out⟩
  case round =>
    clear HF
    obtain ⟨j, hj, rfl, hfl⟩ := hrel
    have HF1 := Lib.hid hfl
    clear hfl
    by_cases hlt : j < L.length
    · have c1 := HAT.out.below HF1.out.below0 hg j hlt
      have K1 := Lib.hid (strs_at L j hlt)
      have HI := Lib.hid (itoa_any (HX.out L[j] (List.getElem_mem hlt)) wr (HT.out.on HF1.out.below0))
      obtain ⟨z, hz⟩ : ∃ z, z = L[j] := ⟨_, rfl⟩
      rw [← hz] at c1 K1 HI
      have hj0 : (0 : Int) ≤ (j : Int) := by omega
      have hj1 : (j : Int) < (L.length : Int) := by omega
      clear hz
      go_wp2_with (go_at_call 53; refine HI.out.mono ?_; rintro e w2 ⟨rfl, hb2⟩; have HF2 := Lib.hid (HF1.out.below hb2 (Nat.le_refl _)); obtain ⟨⟨u1, d1⟩, f1⟩ := HF2.out.cell j (HM.out j hlt); clear hb2)
      go_roundw
      case rel => exact ⟨j + 1, by omega, by go_num, HF2.out.step (by omega) (Nat.le_refl _) K1.out⟩
      case measure => simp [intOf]; omega
    · obtain rfl : j = L.length := by omega
      have HA := Lib.hid (Filled.all (by rw [Nat.mul_one]; exact HF1.out) (by rw [List.length_map, Nat.mul_one]))
      have HS := Lib.hid HA.out.1
      have HG : Hid (w.heap.size < wr.heap.size) := Lib.hid (by
        obtain ⟨gg, cc, e1, _, e3⟩ := own_some HA.out.1 (by omega)
        cases e1
        exact e3)
      have HJ := Lib.hid (join_any w.heap.size L.length L wr FF.out HG.out (Nat.le_refl _) HS.out)
      go_wp2_with (go_at_call 54; refine HJ.out.mono ?_; rintro e w2 ⟨rfl, hb2⟩; have HB2 := Lib.hid hb2; clear hb2)
      go_ret
      exact ⟨rfl, below_next HA.out.2 HB2.out⟩
theorem tab_at {w W : World} (h : Tab w.heap.size w) (hb : Below w.heap.size w W) : Tab W.heap.size W := fun w' h' => (h.on hb) w' (h'.mono hb.size)
end Go.Proofs.YtbocdhibimcobaaDoor.Ga

/- StrokesText: the two functions, and the law's walk. No condition but the list's and its texts' lengths. -/
import Derived.Test.YtnijedmnjmeciaaDoorSText
import Derived.Test.YtnijedmnjmeciaaDoorBare
import Derived.Test.YtnijedmnjmeciaaDoorShelf
import Derived.Test.YtnijedmnjmeciaaDoorTxMem
namespace Go.Proofs.YtnijedmnjmeciaaDoor
open Go.RowKit

theorem fence_bare : okFence (bareS 20) = true := by kernel_rfl
theorem bare_size : (bareS 20).size = 20 := bareS_size 20

set_option maxHeartbeats 400000 in
theorem specSText_any (A : Option Addr) (cap : Nat) (L : List Strk) (w : World) (hl : L.length ≤ maxLen) (hs : Short L) (h : StrkSl w A L) :
    Calls Tryd.prog 7 #[.slice A L.length cap] w fun e w' => e = .returned (.tuple (if okList 20 L = true then #[.string (txB L), .bool true] else #[.string ⟨#[]⟩, .bool false])) ∧ Below w.heap.size w w' := by
  have hP := fun W hW => stList_any (bareS 20) A cap L W (by rw [bare_size]; decide) hl hs hW
  rw [fence_bare, bare_size, Bool.true_and] at hP
  have HB := Lib.hid fun W => stBare_any 20 W (by omega)
  cases hok : okList 20 L
  · rw [hok] at hP
    rw [if_neg (by decide)]
    clear hok
    go_enter Tryd.func7, Tryd.ntmps7
    go_wp2_with (first
      | (go_at_call 19; refine (HB.out _).mono ?_; rintro e w' ⟨rfl, rfl⟩)
      | (go_at_call 18; refine (hP _ h).mono ?_; rintro e w' ⟨rfl, hb⟩))
    go_ret2
    exact ⟨rfl, hb⟩
  · rw [hok] at hP
    rw [if_pos rfl]
    obtain ⟨h40, hat⟩ := okList_at hok
    have HP := Lib.hid (hP w h)
    have HC := Lib.hid fun W hW => stText_any A cap L W h40 hat hW
    clear hok hP hat
    go_enter Tryd.func7, Tryd.ntmps7
    go_wp2_with (first
      | (go_at_call 19; refine (HB.out _).mono ?_; rintro e w' ⟨rfl, rfl⟩)
      | (go_at_call 18; refine HP.out.mono ?_; rintro e w1 ⟨rfl, hb⟩)
      | (go_at_call 20; refine (HC.out _ (h.below hb)).mono ?_; rintro e w2 ⟨rfl, hb2⟩))
    go_ret2
    exact ⟨rfl, below_next hb hb2⟩

theorem itoaN {x : Int} (h0 : 0 ≤ x) (h1 : x < 20) (w : World) :
    Calls Tryd.prog 23 #[.int .i64 x] w fun e w' => e = .returned (.string (nB x)) ∧ w' = w := by
  have h := Tryd.strconv_Itoa_small x.toNat (by omega) w
  rw [show ((x.toNat : Nat) : Int) = x by omega] at h
  exact h
theorem pcs_at (L : List Strk) (j : Nat) (h : j < L.length) : ((L.map fun s => Value.string (pcB s)))[j]? = some (.string (pcB L[j])) := by
  rw [List.getElem?_map, List.getElem?_eq_getElem h]; rfl
theorem joinS_any (g c : Nat) (L : List Strk) (w : World) (h40 : L.length ≤ 40) (hat : ∀ k (hk : k < L.length), okS 20 L[k] = true) (hg : g < w.heap.size) (hc : L.length ≤ c) {b : Nat} (h : w.ownsRow b 9 1 (.slice (some ⟨g, 0, none⟩) L.length c) L.length (L.map fun x => Value.string (pcB x))) :
    Calls Tryd.prog 24 #[.slice (some ⟨g, 0, none⟩) L.length c, .string ⟨#[44]⟩] w fun e w' => e = .returned (.string (txB L)) ∧ Below w.heap.size w w' := by
  have hm : (L.map pcB).map (·.data.toList) = L.map fun s => (pcB s).data.toList := by
    rw [List.map_map]; rfl
  have hsz := txB_size hat L.length (Nat.le_refl _)
  rw [List.take_length] at hsz
  have e : (txB L).size = (Lib.join (L.map fun s => (pcB s).data.toList) [44]).length := by show (Lib.join (L.map fun s => (pcB s).data.toList) [44]).toArray.size = _; simp
  have := Tryd.strings_Join g 0 c (L.map pcB) ⟨#[44]⟩ w (by
    intro j x hx
    rw [List.getElem?_map] at hx
    by_cases hj : j < L.length
    · rw [List.getElem?_eq_getElem hj] at hx
      obtain rfl : pcB L[j] = x := by simpa using hx
      rw [Nat.zero_add, h.cellAt j (by omega), pcs_at L j hj]
    · rw [List.getElem?_eq_none (by omega)] at hx
      cases hx) hg (by rw [List.length_map]; omega) (by rw [List.length_map]; exact hc) (by rw [hm]; show (Lib.join _ [44]).length ≤ _; omega)
  rw [List.length_map, hm] at this
  exact this
theorem below_drewS {w w1 : World} {B : Nat} (h : Below B w w1) : Below B w w1.drew := h.drew
theorem cell_far (w : World) (b j g k : Nat) (v : Value) (h : g ≠ b) : (w.setCell ⟨b, j, none⟩ v).cell? ⟨g, k, none⟩ = w.cell? ⟨g, k, none⟩ := by
  exact World.cell?_setCell_far _ _ _ _ (fun e => h e.symm)
theorem info_strS : (Tryd.prog.info? 9).map (fun i => (i.zero, i.size, i.bytes)) = some (some (.string ⟨#[]⟩), 1, 16) := by kernel_rfl

set_option maxRecDepth 100000 in
set_option maxHeartbeats 4000000 in
theorem implSText_any (A : Option Addr) (cap : Nat) (L : List Strk) (w : World) (hl : L.length ≤ maxLen) (hs : Short L) (h : StrkSl w A L) :
    Calls Tryd.prog 9 #[.slice A L.length cap] w fun e w' => e = .returned (.tuple (if okList 20 L = true then #[.string (txB L), .bool true] else #[.string ⟨#[]⟩, .bool false])) ∧ Below w.heap.size w w' := by
  have hP := areStrokesOf_any 20 A cap L w hl hs h
  cases hok : okList 20 L
  · rw [hok] at hP
    rw [if_neg (by decide)]
    clear hok
    go_enter Tryd.func9, Tryd.ntmps9
    go_wp2_with (go_at_call 22; refine hP.mono ?_; rintro e w' ⟨rfl, hb⟩)
    go_ret2
    exact ⟨rfl, hb⟩
  · rw [hok] at hP
    rw [if_pos rfl]
    obtain ⟨h40, hat⟩ := okList_at hok
    obtain ⟨i0, hi, hz0, hz1, hz2⟩ := info_parts info_strS
    have HP := Lib.hid hP
    clear hok hP hl hs
    rcases Nat.eq_zero_or_pos L.length with h0 | h0
    · obtain rfl : L = [] := List.eq_nil_of_length_eq_zero h0
      clear h h0 h40 hat
      have HT : Hid (txB [] = ⟨#[]⟩) := Lib.hid rfl
      go_enter Tryd.func9, Tryd.ntmps9
      go_wp2_with (first
        | (go_at_call 22; refine HP.out.mono ?_; rintro e w1 ⟨rfl, hb⟩; have HB := Lib.hid hb; clear hb)
        | (at_make; refine wpList_make_full _ rfl (.tmp 11) (.tmp 11) _ rfl w1.heap.size 9 i0 _ 1 Tryd.underlying46 hi hz0 hz1 .i64 .i64 _ _ 0 rfl rfl rfl rfl (by rw [hz2]; omega) (by unfold maxLen; omega) (Nat.le_refl _) ?_; intro w2 hown hgrow; have HB2 := Lib.hid ((Below.refl _ _).grown hgrow (Nat.le_refl _) (fun k hk => by cases hk)); clear hown hgrow))
      refine wp_loop_rounds 1 ?_
      rw [rounds_succ]
      go_wp2_with (go_at_call 24; refine (Tryd.strings_Join_none _ _ _ _).mono ?_; rintro e w3 ⟨rfl, rfl⟩)
      go_ret2
      exact ⟨ret_sb HT.out.symm, below_next HB.out HB2.out⟩
    · obtain ⟨g, off, rfl, hg, hcells⟩ := h.some h0
      have HAT := Lib.hid hcells
      have HOK := Lib.hid hat
      have hm : ∀ j, j < L.length → j < L.length * 1 := fun j h => by omega
      have HM := Lib.hid hm
      clear hcells hat h hm
      go_enter Tryd.func9, Tryd.ntmps9
      go_wp2_with (first
        | (go_at_call 22; refine HP.out.mono ?_; rintro e w1 ⟨rfl, hb⟩; have HB := Lib.hid hb; clear hb)
        | (at_make; refine wpList_make_full _ rfl (.tmp 11) (.tmp 11) _ rfl w1.heap.size 9 i0 _ 1 Tryd.underlying46 hi hz0 hz1 .i64 .i64 _ _ L.length rfl rfl rfl rfl (by rw [hz2]; omega) (by unfold maxLen; omega) (Nat.le_refl _) ?_; intro w2 hown hgrow; have HF : Hid (Tx.Filled w1 w1.heap.size 9 1 (.slice (some ⟨w1.heap.size, 0, none⟩) L.length L.length) L.length (L.map fun x => Value.string (pcB x)) 0 w2) := Lib.hid (Tx.Filled.made hown ((Below.refl _ _).grown hgrow (Nat.le_refl _) (fun k hk => by cases hk))); clear hown hgrow))
      go_loopw [15] (fun i wr => ∃ j : Nat, j ≤ L.length ∧ i = .int .i64 j ∧ Tx.Filled w1 w1.heap.size 9 1 (.slice (some ⟨w1.heap.size, 0, none⟩) L.length L.length) L.length (L.map fun x => Value.string (pcB x)) j wr) (fun i _ => L.length - (intOf i).toNat)
      case atStart => exact ⟨0, Nat.zero_le _, rfl, HF.out⟩
      case round =>
        clear HF
        obtain ⟨j, hj, rfl, hfl⟩ := hrel
        have HF1 := Lib.hid hfl
        clear hfl
        by_cases hlt : j < L.length
        · obtain ⟨d0, d1, d2⟩ := HAT.out.below (below_next HB.out HF1.out.below0) hg j hlt
          have hok := okS_at (HOK.out j hlt)
          have K1 := Lib.hid (pcs_at L j hlt)
          obtain ⟨f, hf⟩ : ∃ f, f = L[j].f := ⟨_, rfl⟩
          obtain ⟨t, ht⟩ : ∃ t, t = L[j].t := ⟨_, rfl⟩
          obtain ⟨c, hc⟩ : ∃ c, c = L[j].c := ⟨_, rfl⟩
          have hpc : pcB L[j] = nB f ++ ⟨#[45]⟩ ++ nB t ++ c := by rw [hf, ht, hc]; rfl
          rw [hpc] at K1
          rw [← hf] at d0 hok
          rw [← ht] at d1 hok
          rw [← hc] at d2 hok
          obtain ⟨f0, f1, t0, t1, c1⟩ := hok
          have HNF := Lib.hid fun W => itoaN f0 f1 W
          have HNT := Lib.hid fun W => itoaN t0 t1 W
          have hx := nB_size f1
          have hy := nB_size t1
          obtain ⟨x, hxx⟩ : ∃ x, x = nB f := ⟨_, rfl⟩
          obtain ⟨y, hyy⟩ : ∃ y, y = nB t := ⟨_, rfl⟩
          rw [← hxx] at hx HNF K1
          rw [← hyy] at hy HNT K1
          have hc1 : ¬ 9223372036854775807 < x.size + 1 := by omega
          have hc2 : ¬ 9223372036854775807 < x.size + 1 + y.size := by omega
          have hc3 : ¬ 9223372036854775807 < x.size + 1 + y.size + c.size := by omega
          have HC := Lib.hid (cells3 wr f t c 43)
          have hgl : w1.heap.size < wr.heap.size := by
            obtain ⟨ys, ho, -, -⟩ := HF1.out
            obtain ⟨gg, cc, e1, _, e3⟩ := own_some ho (by omega)
            cases e1
            exact e3
          have HF2 := Lib.hid (HF1.out.below (below_drewS (st_below_new wr (.cells #[.int .i64 f, .int .i64 t, .string c] 43))) (Nat.le_refl _))
          obtain ⟨⟨u1, k1⟩, k2⟩ := HF2.out.cell j (HM.out j hlt)
          have HK0 : (wr.alloc (.cells #[.int .i64 f, .int .i64 t, .string c] 43)).drew.cell? ⟨wr.heap.size, 0, none⟩ = some (.int .i64 f) ∧ (wr.alloc (.cells #[.int .i64 f, .int .i64 t, .string c] 43)).drew.cell? ⟨wr.heap.size, 1, none⟩ = some (.int .i64 t) ∧ (wr.alloc (.cells #[.int .i64 f, .int .i64 t, .string c] 43)).drew.cell? ⟨wr.heap.size, 2, none⟩ = some (.string c) := HC.out
          have HKS : Hid (∀ v, ((wr.setCell ⟨w1.heap.size, j, none⟩ v).alloc (.cells #[.int .i64 f, .int .i64 t, .string c] 43)).drew.cell? ⟨wr.heap.size, 0, none⟩ = some (.int .i64 f) ∧ ((wr.setCell ⟨w1.heap.size, j, none⟩ v).alloc (.cells #[.int .i64 f, .int .i64 t, .string c] 43)).drew.cell? ⟨wr.heap.size, 1, none⟩ = some (.int .i64 t) ∧ ((wr.setCell ⟨w1.heap.size, j, none⟩ v).alloc (.cells #[.int .i64 f, .int .i64 t, .string c] 43)).drew.cell? ⟨wr.heap.size, 2, none⟩ = some (.string c)) := Lib.hid fun v => by
            have := cells3 (wr.setCell ⟨w1.heap.size, j, none⟩ v) f t c 43
            rw [show (wr.setCell ⟨w1.heap.size, j, none⟩ v).heap.size = wr.heap.size by simp] at this
            exact this
          have hj0 : (0 : Int) ≤ (j : Int) := by omega
          have hj1 : (j : Int) < (L.length : Int) := by omega
          have eA := fun W : World => run_string_add_sum (P := Tryd.prog) W (x ++ ⟨#[45]⟩ ++ y) c (by simp only [ByteArray.size_append]; rw [show (⟨#[45]⟩ : ByteArray).size = 1 from rfl]; omega)
          clear hf ht hc hxx hyy hpc
          go_wp2
          go_region_held3 (fun x1 => x1.cell? ⟨wr.heap.size, 0, none⟩ = some (.int .i64 f) ∧ x1.cell? ⟨wr.heap.size, 1, none⟩ = some (.int .i64 t) ∧ x1.cell? ⟨wr.heap.size, 2, none⟩ = some (.string c))
            (first | exact HK0 | exact HKS.out _ | go_keep)
            (first
              | (go_at_call 23; with_reducible refine (HNT.out _).mono ?_; rintro e w2 ⟨rfl, rfl⟩)
              | (go_at_call 23; with_reducible refine (HNF.out _).mono ?_; rintro e w1 ⟨rfl, rfl⟩))
          all_goals
            go_wp2
            go_roundw
            case rel => exact ⟨j + 1, by omega, by go_num, (HF1.out.step (HM.out j hlt) (Nat.le_refl _) K1.out).below (below_drewS (st_below_new _ _)) (Nat.le_refl _)⟩
            case measure => simp [intOf]; omega
        · obtain rfl : j = L.length := by omega
          have HA := Lib.hid (Tx.Filled.all (by rw [Nat.mul_one]; exact HF1.out) (by rw [List.length_map, Nat.mul_one]))
          have HG : Hid (w1.heap.size < wr.heap.size) := Lib.hid (by
            obtain ⟨gg, cc, e1, _, e3⟩ := own_some HA.out.1 (by omega)
            cases e1
            exact e3)
          have HJ := Lib.hid (joinS_any w1.heap.size L.length L wr h40 HOK.out HG.out (Nat.le_refl _) HA.out.1)
          go_wp2_with (go_at_call 24; refine HJ.out.mono ?_; rintro e w3 ⟨rfl, hb3⟩; have HB3 := Lib.hid hb3; clear hb3)
          go_ret2
          exact ⟨rfl, below_next HB.out (below_next HA.out.2 HB3.out)⟩
end Go.Proofs.YtnijedmnjmeciaaDoor

/- SeenStrokes: the program's function. No condition but the lists' and the texts' lengths. -/
import Derived.Test.YtcgkjhomjdgmhaaSeen
namespace Go.Proofs.Ytcgkjhomjdgmhaa
open Go.RowKit

theorem box_lt {wr w1 : World} {o : Obj} (h : Below (wr.alloc o).heap.size (wr.alloc o) w1) : wr.heap.size < w1.heap.size := below_lt h

set_option maxRecDepth 20000 in
set_option maxHeartbeats 2000000 in
theorem implSeen_yes (s : ByteArray) (A : Option Addr) (cap : Nat) (L : List Strk) (w : World) (hz : s.size ≤ maxLen) (hl : L.length ≤ maxLen) (hs : Short L) (h : StrkSl w A L) (hcap : L.length ≤ cap) (hok : (okFence s && okList s.size L) = true) :
    Calls Try.prog 75 #[.string s, .slice A L.length cap] w fun e w' => ∃ v, e = .returned (.tuple #[v, .bool true]) ∧ OwnInts w' w.heap.size 3 v (seenJ L L.length) ∧ Below w.heap.size w w' := by
  obtain ⟨i0, hi, hz0, hz1, hz2⟩ := info_parts info_int
  have hP := arePaintable_any s A cap L w hz hl hs h
  rw [hok] at hP
  have HP := Lib.hid hP
  have hof := hok
  rw [Bool.and_eq_true] at hof
  obtain ⟨h1, h20⟩ := okFence_size hof.1
  obtain ⟨h40, hat⟩ := okList_at hof.2
  have HSL := Lib.hid h
  have HOK := Lib.hid hat
  clear hP hof hat hok h hs
  go_enter Try.func75, Try.ntmps75
  go_wp2_with (go_at_call 91; refine HP.out.mono ?_; rintro e w1 ⟨rfl, hb0⟩; have HB1 := Lib.hid hb0; clear hb0)
  go_loopw [6, 17] (fun v i wr => ∃ j : Nat, j ≤ L.length ∧ i = .int .i64 j ∧ OwnInts wr w.heap.size 3 v (seenJ L j) ∧ Below w.heap.size w wr) (fun _ i _ => L.length - (intOf i).toNat)
  case atStart => exact ⟨0, Nat.zero_le _, rfl, OwnInts.nil _ _ _, HB1.out⟩
  case round =>
    obtain ⟨j, hj, rfl, hown, hb⟩ := hrel
    have HO := Lib.hid hown
    clear hown
    by_cases hlt : j < L.length
    · obtain ⟨g, off, hA, hg, hat⟩ := (HSL.out.below hb).some (by omega)
      subst hA
      have hbs := hb.size
      obtain ⟨d1, d2, d3⟩ := hat j hlt
      obtain ⟨a1, a2, a3, a4⟩ := okS_nums (HOK.out j hlt)
      have HY := Lib.hid (seenJ_yes hlt)
      have HNo := Lib.hid (seenJ_no hlt)
      obtain ⟨x, hx⟩ : ∃ x, x = L[j] := ⟨_, rfl⟩
      rw [← hx] at d1 d2 d3 a1 a2 a3 a4 HY HNo
      obtain ⟨f, hf⟩ : ∃ f : Nat, x.f = (f : Int) := ⟨x.f.toNat, by omega⟩
      obtain ⟨t, ht⟩ : ∃ t : Nat, x.t = (t : Int) := ⟨x.t.toNat, by omega⟩
      rw [hf] at d1 a1 a2 HY HNo
      rw [ht] at d2 a2 a3 HY HNo
      obtain ⟨ad8, h8, hd8⟩ := slice_from g off L.length cap (j + 1) hlt hcap
      rw [show ((j + 1 : Nat) : Int) = (j : Int) + 1 by omega] at h8
      have hwr : IntKind.i64.wrap ((j : Int) + 1) = (j : Int) + 1 := wrap_small (by omega)
      have HST : Hid (∀ W, Below wr.heap.size wr W → Calls Try.prog 89 #[.slice (some ad8) (L.length - (j + 1)) (cap - (j + 1))] W fun e w' => e = .returned (.agg (rowF 20 (coatF (L.drop (j + 1)) (L.drop (j + 1)).length)).toArray) ∧ Below W.heap.size W w') := Lib.hid fun W hW => by
        have hD : StrkSl W (some ad8) (L.drop (j + 1)) := by
          rcases Nat.lt_or_ge (j + 1) L.length with l | l
          · have e : ad8 = ⟨g, off + (j + 1) * 3, none⟩ := by rw [hd8 l]; unfold Addr.add; rw [if_neg (by omega)]
            rw [e]
            exact .inr ⟨g, _, rfl, Nat.lt_of_lt_of_le hg hW.size, (hat.below hW hg).drop (j + 1)⟩
          · exact .inl (List.drop_eq_nil_of_le l)
        have := countCoats_any s.size (some ad8) (cap - (j + 1)) (L.drop (j + 1)) W h20 (by rw [List.length_drop]; omega) (drop_ok (j + 1) HOK.out) hD
        rw [show (L.drop (j + 1)).length = L.length - (j + 1) from List.length_drop] at this
        rw [show (L.drop (j + 1)).length = L.length - (j + 1) from List.length_drop]
        exact this
      have HAL := Lib.hid (below_new wr (.cells #[.int .i64 f, .int .i64 t, .string x.c] 43))
      obtain ⟨F, hF⟩ : ∃ F, F = coatF (L.drop (j + 1)) (L.drop (j + 1)).length := ⟨_, rfl⟩
      rw [← hF] at HST
      have HHo : Hid ((∃ i : Nat, (f : Int) ≤ (i : Int) ∧ (i : Int) ≤ (t : Int) ∧ F i = 0) ↔ holeP L j f t) := Lib.hid (by rw [hF]; exact Iff.rfl)
      obtain ⟨C, hC⟩ : ∃ C, C = (rowF 20 F).toArray := ⟨_, rfl⟩
      have HST2 : Hid (∀ W, Below wr.heap.size wr W → Calls Try.prog 89 #[.slice (some ad8) (L.length - (j + 1)) (cap - (j + 1))] W fun e w' => e = .returned (.agg C) ∧ Below W.heap.size W w') := Lib.hid fun W hW => by rw [hC]; exact HST.out W hW
      have hi20 : (Try.prog.info? 77).map (·.size) = some 20 := by kernel_rfl
      have HIL : Hid ((Try.prog.info? 77).map (·.size) = some C.size) := Lib.hid (by rw [hi20, hC]; simp [rowF_len])
      have HIS : Hid (20 = C.size) := Lib.hid (by rw [hC]; simp [rowF_len])
      have HO1 : Hid (C.all (·.oneCell') = true) := Lib.hid (by rw [hC]; exact rowF_one 20 _)
      have HCC := Lib.hid hC
      clear hd8 hat hx hf ht hF hC hi20 HST
      go_wp2_with (first
        | (go_at_call 89; refine (HST2.out _ HAL.out).mono ?_; rintro e w1 ⟨rfl, hb2⟩; have HB1 := Lib.hid hb2; clear hb2)
        | (refine wpList_store_row rfl 77 (.tmp 9) (.tmp 26) rfl w1.heap.size C rfl rfl 77 _ (heap_alloc_new w1 _) HIL.out HIS.out HO1.out ?_; generalize hw3 : World.setRow _ _ _ = w2; have HRW : Hid (RowIs w2 77 w1.heap.size w1.heap.size 20 F) := Lib.hid (by rw [← hw3]; exact RowIs.of_block (by rw [← HCC.out]; exact setRow_heap _ w1.heap.size _ _ 77 (0, 0) (heap_alloc_new w1 _)) (Nat.le_refl _) (by unfold maxLen; omega)); have hb3 : Below w1.heap.size w1 w2 := (by rw [← hw3]; exact below_setRow (below_new w1 _) (Nat.le_refl _)); have HB2 := Lib.hid (below_next HAL.out (below_next HB1.out hb3)); have e1 := (hb3.cell (p := ⟨wr.heap.size, 0, none⟩) (box_lt HB1.out)).trans ((HB1.out.cell (p := ⟨wr.heap.size, 0, none⟩) (by simp)).trans (cell_new wr _ _ 0 _ rfl)); have e2 := (hb3.cell (p := ⟨wr.heap.size, 1, none⟩) (box_lt HB1.out)).trans ((HB1.out.cell (p := ⟨wr.heap.size, 1, none⟩) (by simp)).trans (cell_new wr _ _ 1 _ rfl)); clear hw3 hb3))
      go_loopw [6, 10] (fun v b wi => ∃ k : Nat, f ≤ k ∧ k ≤ t + 1 ∧ b = .int .i64 k ∧ wi = w2 ∧ OwnInts wi w.heap.size 3 v (seenJ L j) ∧ ∀ i : Nat, f ≤ i → i < k → F i ≠ 0) (fun _ b _ => t + 1 - (intOf b).toNat)
      case atStart => exact ⟨f, Nat.le_refl _, by omega, rfl, rfl, OwnInts.below HO.out HB2.out, fun i h1 h2 => by omega⟩
      case round =>
        obtain ⟨k, hk1, hk2, rfl, rfl, hown2, hno⟩ := hrel
        have HO2 := Lib.hid hown2
        have hb3 := Lib.hid (below_next hb HB2.out)
        have hs3 := hb3.out.size
        have HNO := Lib.hid hno
        have hlen := seenJ_len L j
        clear hno d1 d2 d3 hown2 HO
        by_cases hkt : k ≤ t
        · have hv := HRW.out.cell k (by omega)
          have k0 : (0 : Int) ≤ (k : Int) := by omega
          have k1 : (k : Int) < 20 := by omega
          have k2 : (k : Int) ≤ (t : Int) := by omega
          by_cases hz : F k = 0
          · have HN := Lib.hid (HY.out (HHo.out.1 ⟨k, by omega, k2, hz⟩))
            rw [hz] at hv
            clear hz
            go_wp2_with (at_builtin; refine wpList_append_own _ rfl (.tmp 39) (.tmp 41) _ rfl w.heap.size 3 i0 _ 1 8 Try.underlying31 hi hz0 hz1 hz2 rfl (by decide) _ (seenJ L j).length ((seenJ L j).map (Value.int .i64)) rfl (World.ownsRow.alloc HO2.out _) ⟨_, 0, none⟩ 1 1 [.int .i64 (j : Int)] rfl rfl (World.news_of_block (cs := #[.int .i64 (j : Int)]) (t := 3) (fr := (0, 0)) (heap_alloc_new _ _)) (by simp [Value.oneCell']) (by unfold maxLen; omega) (by omega) (by simp; omega) ?_; intro v' w9 hown' hgrow _)
            have HR : Hid (OwnInts w9 w.heap.size 3 v' (seenJ L (j + 1))) := Lib.hid (by rw [HN.out]; exact OwnInts.snoc hown')
            have HB9 : Hid (Below w.heap.size w w9) := Lib.hid ((hb3.out.alloc hs3 _).grown hgrow (by simp; omega) fun k hk => (World.ownsRow.lt HO2.out k hk).1)
            clear hown' hgrow
            go_roundw
            case rel => exact ⟨j + 1, by omega, by go_num, HR.out, HB9.out⟩
            case measure => simp [intOf]; omega
          · have hq : (F k == 0) = false := by rw [beq_eq_false_iff_ne]; exact hz
            have HZ := Lib.hid hz
            clear hz
            go_wp2
            go_roundw
            case rel => exact ⟨k + 1, by omega, by omega, by go_num, by first | rfl | trivial, HO2.out, fun i h1 h2 => by
              rcases Nat.lt_or_ge i k with l | l
              · exact HNO.out i h1 l
              · obtain rfl : i = k := by omega
                exact HZ.out⟩
            case measure => simp [intOf]; omega
        · obtain rfl : k = t + 1 := by omega
          have k2 : ¬ ((t + 1 : Nat) : Int) ≤ (t : Int) := by omega
          have HN := Lib.hid (HNo.out (fun h => by
            obtain ⟨i, x1, x2, x3⟩ := HHo.out.2 h
            exact HNO.out i (by omega) (by omega) x3))
          go_wp2
          go_roundw
          case rel => exact ⟨j + 1, by omega, by go_num, by rw [HN.out]; exact HO2.out, hb3.out⟩
          case measure => simp [intOf]; omega
    · obtain rfl : j = L.length := by omega
      go_wp2
      go_ret2
      exact ⟨_, rfl, HO.out, hb⟩
end Go.Proofs.Ytcgkjhomjdgmhaa

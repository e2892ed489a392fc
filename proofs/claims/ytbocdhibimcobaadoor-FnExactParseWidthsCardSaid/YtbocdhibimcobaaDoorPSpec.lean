/- ParseWidths of the model. No condition but the text's length. -/
import Derived.Test.YtbocdhibimcobaaDoorPieces
import Derived.Test.YtbocdhibimcobaaDoorWText
namespace Go.Proofs.YtbocdhibimcobaaDoor
open Go.RowKit

/-- the text is one that the model reads -/
def okPS (s : ByteArray) : Bool := decide (s.size ≤ 48) && (okW (readP s) && decide (txt (readP s) = s))
def resPS (s : ByteArray) : List Int := if okPS s = true then readP s else []
set_option maxRecDepth 100000 in
set_option maxHeartbeats 4000000 in
theorem specParseWidths_any (s : ByteArray) (w : World) (_ : s.size ≤ maxLen) :
    Calls Tryd.prog 21 #[.string s] w fun e w' => ∃ v, e = .returned (.tuple #[v, .bool (okPS s)]) ∧ OwnInts w' w.heap.size 3 v (resPS s) ∧ Below w.heap.size w w' := by
  obtain ⟨i0, hi, hz0, hz1, hz2⟩ := info_parts info_int
  by_cases h48 : s.size ≤ 48
  · have hnl : ¬ (48 : Int) < (s.size : Int) := by omega
    have HP := Lib.hid (pieces_len s)
    have HPS := Lib.hid (pieces_size s)
    have hno : okW (readP s) = false ∨ (okW (readP s) = true ∧ txt (readP s) ≠ s) → okPS s = false ∧ resPS s = [] := by
      intro h
      have e : okPS s = false := by
        unfold okPS
        rcases h with h | ⟨h1, h2⟩
        · rw [h]; simp
        · rw [decide_eq_false h2]; simp
      exact ⟨e, by unfold resPS; rw [e]; rfl⟩
    have hyes : okW (readP s) = true → txt (readP s) = s → okPS s = true ∧ resPS s = readP s := by
      intro h1 h2
      have e : okPS s = true := by
        unfold okPS
        rw [h1, decide_eq_true h2, decide_eq_true h48]; rfl
      exact ⟨e, by unfold resPS; rw [e]; rfl⟩
    have HNO := Lib.hid hno
    have HYES := Lib.hid hyes
    clear hno hyes
    have HSP := Lib.hid (split_any s 45 w (by omega))
    have h45 : ((45 : UInt8).toNat : Int) = 45 := rfl
    rw [h45] at HSP
    clear h45
    obtain ⟨n, hn⟩ : ∃ n, n = (pieces s 45).length := ⟨_, rfl⟩
    go_enter Tryd.func21, Tryd.ntmps21
    go_wp2_with (go_at_call 35; refine HSP.out.mono ?_; rintro e w1 ⟨v1, rfl, hown, hb⟩; unfold OwnStrs at hown; rw [← hn] at hown; obtain ⟨g, cg, rfl, hg1, hg2⟩ := own_some hown (by have := HP.out; omega))
    have HO1 := Lib.hid hown
    have HB1 := Lib.hid hb
    have hbz := hb.size
    clear hown hb
    go_loopw [4, 6, 13] (fun o _ i wr => ∃ k : Nat, k ≤ n ∧ i = .int .i64 k ∧ OwnInts wr w1.heap.size 3 o ((readP s).take k) ∧ Below w1.heap.size w1 wr) (fun _ _ i _ => n - (intOf i).toNat)
    case atStart => exact ⟨0, Nat.zero_le _, rfl, OwnInts.nil _ _ _, Below.refl _ _⟩
    case round =>
      obtain ⟨k, hk, rfl, hown, hb⟩ := hrel
      have HO := Lib.hid hown
      have HB := Lib.hid hb
      have hbs := hb.size
      obtain ⟨A6, c6, hv6⟩ := hown.len
      subst hv6
      have hpl := HP.out
      by_cases hlt : k < n
      · have hlt' : k < (pieces s 45).length := by omega
        have d1 : wr.cell? ⟨g, k, none⟩ = some (.string (pieces s 45)[k]) := by
          rw [hb.cell (p := ⟨g, k, none⟩) hg2, HO1.out.cellAt k (by omega)]
          exact pieces_at hlt'
        have hsz := HPS.out _ (List.getElem_mem hlt')
        have HRS := Lib.hid (readP_succ hlt')
        have HRD : Hid (∀ W, Calls Tryd.prog 36 #[.string (pieces s 45)[k]] W fun e w' => e = .returned (.int .i64 (readS (pieces s 45)[k])) ∧ Below W.heap.size W w') := Lib.hid fun W => read_any _ W (by unfold maxLen; omega)
        obtain ⟨p, hp⟩ : ∃ p, p = (pieces s 45)[k] := ⟨_, rfl⟩
        rw [← hp] at d1 HRS HRD
        obtain ⟨x, hx⟩ : ∃ x, x = readS p := ⟨_, rfl⟩
        rw [← hx] at HRS HRD
        obtain ⟨Q, hQ⟩ : ∃ Q, Q = (readP s).take k := ⟨_, rfl⟩
        have hql : Q.length ≤ 49 := by rw [hQ, List.length_take]; unfold readP; rw [List.length_map]; omega
        rw [← hQ] at HO HRS ⊢
        have hg0 : g < wr.heap.size := by omega
        clear hown hb hp hx hQ hlt' hsz
        go_wp2_with (first
          | (go_at_call 36; refine (HRD.out _).mono ?_; rintro e w2 ⟨rfl, hb2⟩; have HO2 := Lib.hid (HO.out.below hb2); have HB2 := Lib.hid (below_nextN HB.out hbs hb2); have hbs2 := HB2.out.size; clear hb2)
          | (at_builtin; refine wpList_append_own _ rfl (.tmp 17) (.tmp 20) _ rfl w1.heap.size 3 i0 _ 1 8 Tryd.underlying22 hi hz0 hz1 hz2 rfl (by decide) _ Q.length (Q.map (Value.int .i64)) rfl (World.ownsRow.alloc HO2.out _) ⟨_, 0, none⟩ 1 1 [.int .i64 x] rfl rfl (World.news_of_block (cs := #[.int .i64 x]) (t := 3) (fr := (0, 0)) (heap_alloc_new _ _)) (by simp [Value.oneCell']) (by unfold maxLen; omega) (by omega) (by simp; omega) ?_; intro v' w3 hown' hgrow _; have HR : Hid (OwnInts w3 w1.heap.size 3 v' (Q ++ [x])) := Lib.hid (OwnInts.snoc hown'); have HB3 := Lib.hid ((HB2.out.alloc hbs2 _).grown hgrow (by simp; omega) fun k hk => (World.ownsRow.lt HO2.out k hk).1); clear hown' hgrow))
        go_roundw
        case rel => exact ⟨k + 1, by omega, by go_num, by rw [HRS.out]; exact HR.out, HB3.out⟩
        case measure => simp [intOf]; omega
      · obtain rfl : k = n := by omega
        have hL : (readP s).take k = readP s := List.take_of_length_le (by unfold readP; rw [List.length_map]; omega)
        rw [hL] at HO ⊢
        have HIS := Lib.hid (IntSl.of_own HO.out)
        have HBE := Lib.hid (below_nextN HB1.out hbz hb)
        have hrl : (readP s).length ≤ 1048576 := by unfold readP; rw [List.length_map]; omega
        clear hown hb hL
        cases hok : okW (readP s)
        · obtain ⟨e1, e2⟩ := HNO.out (.inl hok)
          have HW := Lib.hid (shWidths_any A6 c6 (readP s) wr hrl HIS.out)
          rw [hok] at HW
          have E1 := Lib.hid e1
          have E2 := Lib.hid e2
          clear hok e1 e2
          go_wp2_with (go_at_call 38; refine HW.out.mono ?_; rintro e w' ⟨rfl, rfl⟩)
          go_ret2
          exact ⟨_, ret_vb E1.out.symm, by rw [E2.out]; exact OwnInts.nil _ _ _, HBE.out⟩
        · have HW := Lib.hid (shWidths_any A6 c6 (readP s) wr hrl HIS.out)
          rw [hok] at HW
          have HTX := Lib.hid (shText_any A6 c6 (readP s) wr (few_of hok) (small_of hok) HIS.out)
          by_cases heq : txt (readP s) = s
          · obtain ⟨e1, e2⟩ := HYES.out hok heq
            rw [heq] at HTX
            have E1 := Lib.hid e1
            have E2 := Lib.hid e2
            clear hok e1 e2 heq
            go_wp2_with (first
              | (go_at_call 38; refine HW.out.mono ?_; rintro e w' ⟨rfl, rfl⟩)
              | (go_at_call 39; refine HTX.out.mono ?_; rintro e w2 ⟨rfl, hb2⟩; have HO2 := Lib.hid (HO.out.below hb2); have HB2 := Lib.hid (below_next HBE.out hb2); clear hb2))
            go_ret2
            exact ⟨_, ret_vb E1.out.symm, by rw [E2.out]; exact HO2.out.mono hbz, HB2.out⟩
          · obtain ⟨e1, e2⟩ := HNO.out (.inr ⟨hok, heq⟩)
            have E1 := Lib.hid e1
            have E2 := Lib.hid e2
            obtain ⟨y, hy⟩ : ∃ y, y = txt (readP s) := ⟨_, rfl⟩
            rw [← hy] at HTX heq
            have hn1 : (y.toList == s.toList) = false := by
              rw [beq_eq_false_iff_ne]
              intro h
              exact heq (bytes_ext (by rw [← ByteArray.toList_eq, ← ByteArray.toList_eq]; exact h))
            clear hok e1 e2 heq hy
            go_wp2_with (first
              | (go_at_call 38; refine HW.out.mono ?_; rintro e w' ⟨rfl, rfl⟩)
              | (go_at_call 39; refine HTX.out.mono ?_; rintro e w2 ⟨rfl, hb2⟩; have HB2 := Lib.hid (below_next HBE.out hb2); clear hb2))
            go_ret2
            exact ⟨_, ret_vb E1.out.symm, by rw [E2.out]; exact OwnInts.nil _ _ _, HB2.out⟩
  · have e : okPS s = false := by unfold okPS; rw [decide_eq_false h48]; rfl
    have e2 : resPS s = [] := by unfold resPS; rw [e]; rfl
    rw [e, e2]
    have hnl : (48 : Int) < (s.size : Int) := by omega
    clear e e2
    go_enter Tryd.func21, Tryd.ntmps21
    go_wp2
    go_ret2
    exact ⟨_, rfl, OwnInts.nil _ _ _, Below.refl _ _⟩
end Go.Proofs.YtbocdhibimcobaaDoor

/- ParseGates of both sides. No condition but the text's length; the program's wants the library's variables as they are laid. -/
import Derived.Test.YtbocdhibimcobaaDoorGaPGen0
import Derived.Test.YtbocdhibimcobaaDoorGaPNums
import Derived.Test.YtbocdhibimcobaaDoorGaGaText
namespace Go.Proofs.YtbocdhibimcobaaDoor.Ga
open Go.RowKit

/-- the text is one that is read -/
def okPS (s : ByteArray) : Bool := decide (s.size = 0) || (decide (s.size ≤ 30) && okGa 40 (readP s))
def resPS (s : ByteArray) : List Int := if s.size = 0 then [] else if okPS s = true then readP s else []
theorem okPS_zero {s : ByteArray} (h : s.size = 0) : okPS s = true ∧ resPS s = [] := by
  unfold okPS resPS
  rw [decide_eq_true h, if_pos h]; exact ⟨rfl, rfl⟩
theorem okPS_of {s : ByteArray} (h : s.size ≠ 0) : okPS s = (decide (s.size ≤ 30) && okGa 40 (readP s)) := by unfold okPS; rw [decide_eq_false h]; rfl
theorem resPS_no {s : ByteArray} (h : okPS s = false) : resPS s = [] := by unfold resPS; rw [h]; split <;> rfl
theorem resPS_yes {s : ByteArray} (h0 : s.size ≠ 0) (h : okPS s = true) : resPS s = readP s := by unfold resPS; rw [h, if_neg h0]; rfl
theorem okG2 {L : List Int} (h : okGa 40 L = true) (h1 : 1 ≤ L.length) : Num2 L := ⟨h1, fun x hx => by have := incF_mem (okGa_at h).2.2 x hx; omega⟩
theorem empty_of {s : ByteArray} (h : s.size = 0) : s = ⟨#[]⟩ := by
  apply bytes_ext
  have : s.data.toList.length = 0 := by simpa using h
  rw [List.eq_nil_of_length_eq_zero this]
theorem readP_len (s : ByteArray) : 1 ≤ (readP s).length := by unfold readP pieces; simp

set_option maxRecDepth 100000 in
set_option maxHeartbeats 4000000 in
theorem specParseGates_any (s : ByteArray) (w : World) (_ : s.size ≤ maxLen) :
    Calls Tryd.prog 15 #[.string s] w fun e w' => ∃ v, e = .returned (.tuple #[v, .bool (okPS s)]) ∧ OwnInts w' w.heap.size 3 v (resPS s) ∧ Below w.heap.size w w' := by
  obtain ⟨i0, hi, hz0, hz1, hz2⟩ := info_parts info_int
  by_cases hz : s.size = 0
  · obtain ⟨e1, e2⟩ := okPS_zero hz
    rw [e1, e2, empty_of hz]
    clear hz e1 e2
    go_enter Tryd.func15, Tryd.ntmps15
    go_wp2
    go_ret2
    exact ⟨_, rfl, OwnInts.nil _ _ _, Below.refl _ _⟩
  have hne : s.toList.isEmpty = false := by
    rw [List.isEmpty_eq_false_iff]
    intro h
    apply hz
    have : s.toList.length = 0 := by rw [h]; rfl
    rw [ByteArray.toList_eq] at this
    simpa using this
  by_cases h48 : s.size ≤ 30
  · have hnl : ¬ (30 : Int) < (s.size : Int) := by omega
    have HP := Lib.hid (pieces_len s)
    have HPS := Lib.hid (pieces_size s)
    have HNO : Hid (okGa 40 (readP s) = false → okPS s = false ∧ resPS s = []) := Lib.hid fun h => by
      have e : okPS s = false := by rw [okPS_of hz, h, Bool.and_false]
      exact ⟨e, resPS_no e⟩
    have HYES : Hid (okGa 40 (readP s) = true → okPS s = true ∧ resPS s = readP s) := Lib.hid fun h1 => by
      have e : okPS s = true := by rw [okPS_of hz, h1, decide_eq_true h48]; rfl
      exact ⟨e, resPS_yes hz e⟩
    have HSP := Lib.hid (split_any s 124 w (by omega))
    have h45 : ((124 : UInt8).toNat : Int) = 124 := rfl
    rw [h45] at HSP
    clear h45
    obtain ⟨n, hn⟩ : ∃ n, n = (pieces s 124).length := ⟨_, rfl⟩
    have HZ := Lib.hid hz
    clear hz
    go_enter Tryd.func15, Tryd.ntmps15
    go_wp2_with (go_at_call 35; refine HSP.out.mono ?_; rintro e w1 ⟨v1, rfl, hown, hb⟩; unfold OwnStrs at hown; rw [← hn] at hown; obtain ⟨g, cg, rfl, hg1, hg2⟩ := own_some hown (by have := HP.out; omega))
    have HO1 := Lib.hid hown
    have HB1 := Lib.hid hb
    have hbz := hb.size
    clear hown hb
    go_loopw [4, 6, 15] (fun o _ i wr => ∃ k : Nat, k ≤ n ∧ i = .int .i64 k ∧ OwnInts wr w1.heap.size 3 o ((readP s).take k) ∧ Below w1.heap.size w1 wr) (fun _ _ i _ => n - (intOf i).toNat)
    case atStart => exact ⟨0, Nat.zero_le _, rfl, OwnInts.nil _ _ _, Below.refl _ _⟩
    case round =>
      obtain ⟨k, hk, rfl, hown, hb⟩ := hrel
      have HO := Lib.hid hown
      have HB := Lib.hid hb
      have hbs := hb.size
      obtain ⟨A6, c6, hv6⟩ := hown.len
      subst hv6
      have hpl := HP.out
      by_cases hlt : k < n
      · have hlt' : k < (pieces s 124).length := by omega
        have d1 : wr.cell? ⟨g, k, none⟩ = some (.string (pieces s 124)[k]) := by
          rw [hb.cell (p := ⟨g, k, none⟩) hg2, HO1.out.cellAt k (by omega)]
          exact pieces_at hlt'
        have hsz := HPS.out _ (List.getElem_mem hlt')
        have HRS := Lib.hid (readP_succ hlt')
        have HRD : Hid (∀ W, Calls Tryd.prog 36 #[.string (pieces s 124)[k]] W fun e w' => e = .returned (.int .i64 (readS (pieces s 124)[k])) ∧ Below W.heap.size W w') := Lib.hid fun W => read_any _ W (by unfold maxLen; omega)
        obtain ⟨p, hp⟩ : ∃ p, p = (pieces s 124)[k] := ⟨_, rfl⟩
        rw [← hp] at d1 HRS HRD
        obtain ⟨x, hx⟩ : ∃ x, x = readS p := ⟨_, rfl⟩
        rw [← hx] at HRS HRD
        obtain ⟨Q, hQ⟩ : ∃ Q, Q = (readP s).take k := ⟨_, rfl⟩
        have hql : Q.length ≤ 61 := by rw [hQ, List.length_take]; unfold readP; rw [List.length_map]; omega
        rw [← hQ] at HO HRS ⊢
        have hg0 : g < wr.heap.size := by omega
        clear hown hb hp hx hQ hlt' hsz
        go_wp2_with (first
          | (go_at_call 36; refine (HRD.out _).mono ?_; rintro e w2 ⟨rfl, hb2⟩; have HO2 := Lib.hid (HO.out.below hb2); have HB2 := Lib.hid (below_nextN HB.out hbs hb2); have hbs2 := HB2.out.size; clear hb2)
          | (at_builtin; refine wpList_append_own _ rfl (.tmp 19) (.tmp 22) _ rfl w1.heap.size 3 i0 _ 1 8 Tryd.underlying22 hi hz0 hz1 hz2 rfl (by decide) _ Q.length (Q.map (Value.int .i64)) rfl (World.ownsRow.alloc HO2.out _) ⟨_, 0, none⟩ 1 1 [.int .i64 x] rfl rfl (World.news_of_block (cs := #[.int .i64 x]) (t := 3) (fr := (0, 0)) (heap_alloc_new _ _)) (by simp [Value.oneCell']) (by unfold maxLen; omega) (by omega) (by simp; omega) ?_; intro v' w3 hown' hgrow _; have HR : Hid (OwnInts w3 w1.heap.size 3 v' (Q ++ [x])) := Lib.hid (OwnInts.snoc hown'); have HB3 := Lib.hid ((HB2.out.alloc hbs2 _).grown hgrow (by simp; omega) fun k hk => (World.ownsRow.lt HO2.out k hk).1); clear hown' hgrow))
        go_roundw
        case rel => exact ⟨k + 1, by omega, by go_num, by rw [HRS.out]; exact HR.out, HB3.out⟩
        case measure => simp [intOf]; omega
      · obtain rfl : k = n := by omega
        have hL : (readP s).take k = readP s := List.take_of_length_le (by unfold readP; rw [List.length_map]; omega)
        rw [hL] at HO ⊢
        have HIS := Lib.hid (IntSl.of_own HO.out)
        have HBE := Lib.hid (below_nextN HB1.out hbz hb)
        have hrl : (readP s).length ≤ 1048576 := by unfold readP; rw [List.length_map]; omega
        have HW := Lib.hid (gaAre_any 40 A6 c6 (readP s) wr hrl HIS.out)
        clear hown hb hL
        cases hok : okGa 40 (readP s)
        · obtain ⟨e1, e2⟩ := HNO.out hok
          rw [hok] at HW
          have E1 := Lib.hid e1
          have E2 := Lib.hid e2
          clear hok e1 e2
          go_wp2_with (go_at_call 31; refine HW.out.mono ?_; rintro e w' ⟨rfl, rfl⟩)
          go_ret2
          exact ⟨_, ret_vb E1.out.symm, by rw [E2.out]; exact OwnInts.nil _ _ _, HBE.out⟩
        · obtain ⟨e1, e2⟩ := HYES.out hok
          rw [hok] at HW
          have E1 := Lib.hid e1
          have E2 := Lib.hid e2
          have HTX := Lib.hid (gaText_any A6 c6 (readP s) wr (few_G hok (readP_len s)) (small_G hok) HIS.out)
          rw [readP_back (s := s) fun x hx => (small_G hok x hx).1] at HTX
          clear hok e1 e2
          go_wp2_with (first
            | (go_at_call 31; refine HW.out.mono ?_; rintro e w' ⟨rfl, rfl⟩)
            | (go_at_call 32; refine HTX.out.mono ?_; rintro e w4 ⟨rfl, hb4⟩; have HO4 := Lib.hid (HO.out.below hb4); have HB4 := Lib.hid (below_next HBE.out hb4); clear hb4))
          go_ret2
          exact ⟨_, ret_vb E1.out.symm, by rw [E2.out]; exact HO4.out.mono hbz, HB4.out⟩
  · have e : okPS s = false := by rw [okPS_of hz, decide_eq_false h48]; rfl
    have e2 := resPS_no e
    rw [e, e2]
    have hnl : (30 : Int) < (s.size : Int) := by omega
    clear e e2 hz
    go_enter Tryd.func15, Tryd.ntmps15
    go_wp2
    go_ret2
    exact ⟨_, rfl, OwnInts.nil _ _ _, Below.refl _ _⟩

/-- the text is one that the program reads -/
def okPI (s : ByteArray) : Bool := okNN s 11 && okGa 40 (numsN s 11)
def resPI (s : ByteArray) : List Int := if okPI s = true then numsN s 11 else []
set_option maxRecDepth 100000 in
set_option maxHeartbeats 4000000 in
theorem implParse_any (s : ByteArray) (w : World) (hz : s.size ≠ 0) (hs : s.size ≤ 1048576) (he : Env w.heap.size w) :
    Calls Tryd.prog 16 #[.string s] w fun e w' => ∃ v, e = .returned (.tuple #[v, .bool (okPI s)]) ∧ OwnInts w' w.heap.size 3 v (resPI s) ∧ Below w.heap.size w w' := by
  have hne : s.toList.isEmpty = false := by
    rw [List.isEmpty_eq_false_iff]
    intro h
    apply hz
    have : s.toList.length = 0 := by rw [h]; rfl
    rw [ByteArray.toList_eq] at this
    simpa using this
  have HP := Lib.hid (parseNumbers_any s 10 w hs he (by omega) (by omega))
  have HLEN := Lib.hid (wordsN_len s 11 (by omega))
  clear he hz
  cases hok : okNN s 11
  · have e1 : okPI s = false := by unfold okPI; rw [hok]; rfl
    have E1 := Lib.hid e1
    have E2 : Hid (resPI s = []) := Lib.hid (by unfold resPI; rw [e1]; rfl)
    rw [hok] at HP
    clear hok e1
    go_enter Tryd.func16, Tryd.ntmps16
    go_wp2_with (go_at_call 37; refine HP.out.mono ?_; rintro e w1 ⟨v, rfl, hown, hb⟩; have HB := Lib.hid hb; clear hb hown)
    go_ret2
    exact ⟨_, ret_vb E1.out.symm, by rw [E2.out]; exact OwnInts.nil _ _ _, HB.out⟩
  · have hr : resNN s 11 = numsN s 11 := by unfold resNN; rw [hok]; rfl
    rw [hr, hok] at HP
    have hl : (numsN s 11).length ≤ 1048576 := by unfold numsN; rw [List.length_map]; have := HLEN.out; omega
    cases hw : okGa 40 (numsN s 11)
    · have e1 : okPI s = false := by unfold okPI; rw [hok, hw]; rfl
      have E1 := Lib.hid e1
      have E2 : Hid (resPI s = []) := Lib.hid (by unfold resPI; rw [e1]; rfl)
      have HW := Lib.hid hw
      clear hok e1 hr hw
      go_enter Tryd.func16, Tryd.ntmps16
      go_wp2_with (first
        | (go_at_call 37; refine HP.out.mono ?_; rintro e w1 ⟨v, rfl, hown, hb⟩; obtain ⟨A6, c6, hv6⟩ := hown.len; subst hv6; have HB := Lib.hid hb; have HA := Lib.hid (areGates_any 40 A6 c6 (numsN s 11) w1 hl (IntSl.of_own hown)); rw [HW.out] at HA; clear hb hown)
        | (go_at_call 33; refine HA.out.mono ?_; rintro e w2 ⟨rfl, rfl⟩))
      go_ret2
      exact ⟨_, ret_vb E1.out.symm, by rw [E2.out]; exact OwnInts.nil _ _ _, HB.out⟩
    · have e1 : okPI s = true := by unfold okPI; rw [hok, hw]; rfl
      have E1 := Lib.hid e1
      have E2 : Hid (resPI s = numsN s 11) := Lib.hid (by unfold resPI; rw [e1]; rfl)
      have HW := Lib.hid hw
      clear hok e1 hr hw
      go_enter Tryd.func16, Tryd.ntmps16
      go_wp2_with (first
        | (go_at_call 37; refine HP.out.mono ?_; rintro e w1 ⟨v, rfl, hown, hb⟩; obtain ⟨A6, c6, hv6⟩ := hown.len; subst hv6; have HB := Lib.hid hb; have HO := Lib.hid hown; have HA := Lib.hid (areGates_any 40 A6 c6 (numsN s 11) w1 hl (IntSl.of_own hown)); rw [HW.out] at HA; clear hb hown)
        | (go_at_call 33; refine HA.out.mono ?_; rintro e w2 ⟨rfl, rfl⟩))
      go_ret2
      exact ⟨_, ret_vb E1.out.symm, by rw [E2.out]; exact HO.out, HB.out⟩
theorem nums_pos (s : ByteArray) (n : Nat) : 1 ≤ (numsN s n).length := by unfold numsN; rw [List.length_map]; exact wordsN_pos s n
/-- BOTH READ THE SAME. -/
theorem parse_same (s : ByteArray) (hz : s.size ≠ 0) : okPI s = okPS s ∧ resPI s = resPS s := by
  cases h : okPS s
  · cases h2 : okPI s
    · exact ⟨rfl, by unfold resPI; rw [h2, resPS_no h]; rfl⟩
    · unfold okPI okNN at h2
      rw [Bool.and_eq_true, Bool.and_eq_true, decide_eq_true_iff] at h2
      have h3 := okG2 h2.2 (nums_pos s 11)
      have h4 := (okGa_at h2.2).2.1
      have h5 := read2 h3
      have h6 := txt2_ends h3
      rw [h2.1.2] at h5 h6
      rw [okPS_of hz, h5, h2.2, decide_eq_true (by omega)] at h
      cases h
  · have hh := h
    rw [okPS_of hz, Bool.and_eq_true, decide_eq_true_iff] at hh
    have h3 := okG2 hh.2 (readP_len s)
    have h4 := (okGa_at hh.2).2.1
    have h5 := readP_back (s := s) fun x hx => (h3.2 x hx).1
    have h6 := nums2 h3 11 (by omega)
    have h7 := okNN2 h3 11 (by omega)
    rw [h5] at h6 h7
    have e : okPI s = true := by unfold okPI; rw [h7, h6, hh.2]; rfl
    exact ⟨e, by unfold resPI; rw [e, h6, resPS_yes hz h]; rfl⟩
theorem resPS_len (s : ByteArray) : (resPS s).length ≤ 1048576 := by
  by_cases hz : s.size = 0
  · rw [(okPS_zero hz).2]; exact Nat.zero_le _
  · cases h : okPS s
    · rw [resPS_no h]; exact Nat.zero_le _
    · rw [resPS_yes hz h]
      rw [okPS_of hz, Bool.and_eq_true] at h
      have := (okGa_at h.2).2.1
      omega
theorem implParseGates_any (s : ByteArray) (w : World) (hs : s.size ≤ 1048576) (he : Env w.heap.size w) :
    Calls Tryd.prog 16 #[.string s] w fun e w' => ∃ v, e = .returned (.tuple #[v, .bool (okPS s)]) ∧ OwnInts w' w.heap.size 3 v (resPS s) ∧ Below w.heap.size w w' := by
  by_cases hz : s.size = 0
  · obtain ⟨e1, e2⟩ := okPS_zero hz
    rw [e1, e2, empty_of hz]
    clear hz e1 e2 he hs
    go_enter Tryd.func16, Tryd.ntmps16
    go_wp2
    go_ret2
    exact ⟨_, rfl, OwnInts.nil _ _ _, Below.refl _ _⟩
  · obtain ⟨e1, e2⟩ := parse_same s hz
    rw [← e1, ← e2]
    exact implParse_any s w hz hs he
end Go.Proofs.YtbocdhibimcobaaDoor.Ga

/- ParseRails of both sides. No condition but the text's length; the program's wants the library's variables as they are laid. -/
import Derived.Test.YtbocdhibimcobaaDoorPGen
import Derived.Test.YtbocdhibimcobaaDoorPNums
import Derived.Test.YtbocdhibimcobaaDoorRailsC
namespace Go.Proofs.YtbocdhibimcobaaDoor
open Go.RowKit

/-- the text is one that is read -/
def okPS (s : ByteArray) : Bool := decide (s.size ≤ 31) && okRa (readP s)
def resPS (s : ByteArray) : List Int := if okPS s = true then readP s else []
theorem okRa3 {L : List Int} (h : okRa L = true) : Num3 L := num3_of h (by decide)

set_option maxRecDepth 100000 in
set_option maxHeartbeats 4000000 in
theorem poParse_any (s : ByteArray) (w : World) (_ : s.size ≤ maxLen) :
    Calls Tryd.prog 43 #[.string s] w fun e w' => ∃ v, e = .returned (.tuple #[v, .bool (okPS s)]) ∧ OwnInts w' w.heap.size 3 v (resPS s) ∧ Below w.heap.size w w' := by
  obtain ⟨i0, hi, hz0, hz1, hz2⟩ := info_parts info_int
  by_cases h48 : s.size ≤ 31
  · have hnl : ¬ (31 : Int) < (s.size : Int) := by omega
    have HP := Lib.hid (pieces_len s)
    have HPS := Lib.hid (pieces_size s)
    have HNO : Hid (okRa (readP s) = false → okPS s = false ∧ resPS s = []) := Lib.hid fun h => by
      have e : okPS s = false := by unfold okPS; rw [h, Bool.and_false]
      exact ⟨e, by unfold resPS; rw [e]; rfl⟩
    have HYES : Hid (okRa (readP s) = true → okPS s = true ∧ resPS s = readP s) := Lib.hid fun h1 => by
      have e : okPS s = true := by unfold okPS; rw [h1, decide_eq_true h48]; rfl
      exact ⟨e, by unfold resPS; rw [e]; rfl⟩
    have HSP := Lib.hid (split_any s 45 w (by omega))
    have h45 : ((45 : UInt8).toNat : Int) = 45 := rfl
    rw [h45] at HSP
    clear h45
    obtain ⟨n, hn⟩ : ∃ n, n = (pieces s 45).length := ⟨_, rfl⟩
    go_enter Tryd.func43, Tryd.ntmps43
    go_wp2_with (go_at_call 35; refine HSP.out.mono ?_; rintro e w1 ⟨v1, rfl, hown, hb⟩; unfold OwnStrs at hown; rw [← hn] at hown; obtain ⟨g, cg, rfl, hg1, hg2⟩ := own_some hown (by have := HP.out; omega))
    have HO1 := Lib.hid hown
    have HB1 := Lib.hid hb
    have hbz := hb.size
    clear hown hb
    go_loopw [4, 6, 13] (fun o _ i wr => ∃ k : Nat, k ≤ n ∧ i = .int .i64 k ∧ OwnInts wr w1.heap.size 3 o ((readP s).take k) ∧ Below w1.heap.size w1 wr) (fun _ _ i _ => n - (intOf i).toNat)
    case atStart => exact ⟨0, Nat.zero_le _, rfl, OwnInts.nil _ _ _, Below.refl _ _⟩
    case round =>
      obtain ⟨k, hk, rfl, hown, hb⟩ := hrel
      have HO := Lib.hid hown
      have HB := Lib.hid hb
      have hbs := hb.size
      obtain ⟨A6, c6, hv6⟩ := hown.len
      subst hv6
      have hpl := HP.out
      by_cases hlt : k < n
      · have hlt' : k < (pieces s 45).length := by omega
        have d1 : wr.cell? ⟨g, k, none⟩ = some (.string (pieces s 45)[k]) := by
          rw [hb.cell (p := ⟨g, k, none⟩) hg2, HO1.out.cellAt k (by omega)]
          exact pieces_at hlt'
        have hsz := HPS.out _ (List.getElem_mem hlt')
        have HRS := Lib.hid (readP_succ hlt')
        have HRD : Hid (∀ W, Calls Tryd.prog 36 #[.string (pieces s 45)[k]] W fun e w' => e = .returned (.int .i64 (readS (pieces s 45)[k])) ∧ Below W.heap.size W w') := Lib.hid fun W => read_any _ W (by unfold maxLen; omega)
        obtain ⟨p, hp⟩ : ∃ p, p = (pieces s 45)[k] := ⟨_, rfl⟩
        rw [← hp] at d1 HRS HRD
        obtain ⟨x, hx⟩ : ∃ x, x = readS p := ⟨_, rfl⟩
        rw [← hx] at HRS HRD
        obtain ⟨Q, hQ⟩ : ∃ Q, Q = (readP s).take k := ⟨_, rfl⟩
        have hql : Q.length ≤ 32 := by rw [hQ, List.length_take]; unfold readP; rw [List.length_map]; omega
        rw [← hQ] at HO HRS ⊢
        have hg0 : g < wr.heap.size := by omega
        clear hown hb hp hx hQ hlt' hsz
        go_wp2_with (first
          | (go_at_call 36; refine (HRD.out _).mono ?_; rintro e w2 ⟨rfl, hb2⟩; have HO2 := Lib.hid (HO.out.below hb2); have HB2 := Lib.hid (below_nextN HB.out hbs hb2); have hbs2 := HB2.out.size; clear hb2)
          | (at_builtin; refine wpList_append_own _ rfl (.tmp 17) (.tmp 20) _ rfl w1.heap.size 3 i0 _ 1 8 Tryd.underlying22 hi hz0 hz1 hz2 rfl (by decide) _ Q.length (Q.map (Value.int .i64)) rfl (World.ownsRow.alloc HO2.out _) ⟨_, 0, none⟩ 1 1 [.int .i64 x] rfl rfl (World.news_of_block (cs := #[.int .i64 x]) (t := 3) (fr := (0, 0)) (heap_alloc_new _ _)) (by simp [Value.oneCell']) (by unfold maxLen; omega) (by omega) (by simp; omega) ?_; intro v' w3 hown' hgrow _; have HR : Hid (OwnInts w3 w1.heap.size 3 v' (Q ++ [x])) := Lib.hid (OwnInts.snoc hown'); have HB3 := Lib.hid ((HB2.out.alloc hbs2 _).grown hgrow (by simp; omega) fun k hk => (World.ownsRow.lt HO2.out k hk).1); clear hown' hgrow))
        go_roundw
        case rel => exact ⟨k + 1, by omega, by go_num, by rw [HRS.out]; exact HR.out, HB3.out⟩
        case measure => simp [intOf]; omega
      · obtain rfl : k = n := by omega
        have hL : (readP s).take k = readP s := List.take_of_length_le (by unfold readP; rw [List.length_map]; omega)
        rw [hL] at HO ⊢
        have HIS := Lib.hid (IntSl.of_own HO.out)
        have HBE := Lib.hid (below_nextN HB1.out hbz hb)
        have hrl : (readP s).length ≤ 1048576 := by unfold readP; rw [List.length_map]; omega
        have HW := Lib.hid (poGood_any A6 c6 (readP s) wr hrl HIS.out)
        clear hown hb hL
        cases hok : okRa (readP s)
        · obtain ⟨e1, e2⟩ := HNO.out hok
          rw [hok] at HW
          have E1 := Lib.hid e1
          have E2 := Lib.hid e2
          clear hok e1 e2
          go_wp2_with (go_at_call 41; refine HW.out.mono ?_; rintro e w' ⟨rfl, rfl⟩)
          go_ret2
          exact ⟨_, ret_vb E1.out.symm, by rw [E2.out]; exact OwnInts.nil _ _ _, HBE.out⟩
        · obtain ⟨e1, e2⟩ := HYES.out hok
          rw [hok] at HW
          have E1 := Lib.hid e1
          have E2 := Lib.hid e2
          clear hok e1 e2
          go_wp2_with (go_at_call 41; refine HW.out.mono ?_; rintro e w' ⟨rfl, rfl⟩)
          go_ret2
          exact ⟨_, ret_vb E1.out.symm, by rw [E2.out]; exact HO.out.mono hbz, HBE.out⟩
  · have e : okPS s = false := by unfold okPS; rw [decide_eq_false h48]; rfl
    have e2 : resPS s = [] := by unfold resPS; rw [e]; rfl
    rw [e, e2]
    have hnl : (31 : Int) < (s.size : Int) := by omega
    clear e e2
    go_enter Tryd.func43, Tryd.ntmps43
    go_wp2
    go_ret2
    exact ⟨_, rfl, OwnInts.nil _ _ _, Below.refl _ _⟩
theorem specParseRails_any (s : ByteArray) (w : World) (hs : s.size ≤ maxLen) :
    Calls Tryd.prog 25 #[.string s] w fun e w' => ∃ v, e = .returned (.tuple #[v, .bool (okPS s)]) ∧ OwnInts w' w.heap.size 3 v (resPS s) ∧ Below w.heap.size w w' := by
  have HP := Lib.hid (poParse_any s w hs)
  go_enter Tryd.func25, Tryd.ntmps25
  go_wp2_with fail
  refine HP.out.mono ?_
  rintro e w1 ⟨v, rfl, hown, hb⟩
  go_wp2
  go_ret2
  exact ⟨_, rfl, hown, hb⟩

/-- the text is one that the program reads -/
def okPI (s : ByteArray) : Bool := okNN s 9 && okRa (numsN s 9)
def resPI (s : ByteArray) : List Int := if okPI s = true then numsN s 9 else []
set_option maxRecDepth 100000 in
set_option maxHeartbeats 4000000 in
theorem implParse_any (s : ByteArray) (w : World) (hs : s.size ≤ 1048576) (he : Env w.heap.size w) :
    Calls Tryd.prog 26 #[.string s] w fun e w' => ∃ v, e = .returned (.tuple #[v, .bool (okPI s)]) ∧ OwnInts w' w.heap.size 3 v (resPI s) ∧ Below w.heap.size w w' := by
  have HP := Lib.hid (parseNumbers_any s 8 w hs he (by omega) (by omega))
  have HLEN := Lib.hid (wordsN_len s 9 (by omega))
  clear he
  cases hok : okNN s 9
  · have e1 : okPI s = false := by unfold okPI; rw [hok]; rfl
    have E1 := Lib.hid e1
    have E2 : Hid (resPI s = []) := Lib.hid (by unfold resPI; rw [e1]; rfl)
    rw [hok] at HP
    clear hok e1
    go_enter Tryd.func26, Tryd.ntmps26
    go_wp2_with (go_at_call 37; refine HP.out.mono ?_; rintro e w1 ⟨v, rfl, hown, hb⟩; have HB := Lib.hid hb; clear hb hown)
    go_ret2
    exact ⟨_, ret_vb E1.out.symm, by rw [E2.out]; exact OwnInts.nil _ _ _, HB.out⟩
  · have hr : resNN s 9 = numsN s 9 := by unfold resNN; rw [hok]; rfl
    rw [hr, hok] at HP
    have hl : (numsN s 9).length ≤ 1048576 := by unfold numsN; rw [List.length_map]; have := HLEN.out; omega
    cases hw : okRa (numsN s 9)
    · have e1 : okPI s = false := by unfold okPI; rw [hok, hw]; rfl
      have E1 := Lib.hid e1
      have E2 : Hid (resPI s = []) := Lib.hid (by unfold resPI; rw [e1]; rfl)
      have HW := Lib.hid hw
      clear hok e1 hr hw
      go_enter Tryd.func26, Tryd.ntmps26
      go_wp2_with (first
        | (go_at_call 37; refine HP.out.mono ?_; rintro e w1 ⟨v, rfl, hown, hb⟩; obtain ⟨A6, c6, hv6⟩ := hown.len; subst hv6; have HB := Lib.hid hb; have HA := Lib.hid (implRails_any A6 c6 (numsN s 9) w1 hl (IntSl.of_own hown)); rw [HW.out] at HA; clear hb hown)
        | (go_at_call 42; refine HA.out.mono ?_; rintro e w2 ⟨rfl, rfl⟩))
      go_ret2
      exact ⟨_, ret_vb E1.out.symm, by rw [E2.out]; exact OwnInts.nil _ _ _, HB.out⟩
    · have e1 : okPI s = true := by unfold okPI; rw [hok, hw]; rfl
      have E1 := Lib.hid e1
      have E2 : Hid (resPI s = numsN s 9) := Lib.hid (by unfold resPI; rw [e1]; rfl)
      have HW := Lib.hid hw
      clear hok e1 hr hw
      go_enter Tryd.func26, Tryd.ntmps26
      go_wp2_with (first
        | (go_at_call 37; refine HP.out.mono ?_; rintro e w1 ⟨v, rfl, hown, hb⟩; obtain ⟨A6, c6, hv6⟩ := hown.len; subst hv6; have HB := Lib.hid hb; have HO := Lib.hid hown; have HA := Lib.hid (implRails_any A6 c6 (numsN s 9) w1 hl (IntSl.of_own hown)); rw [HW.out] at HA; clear hb hown)
        | (go_at_call 42; refine HA.out.mono ?_; rintro e w2 ⟨rfl, rfl⟩))
      go_ret2
      exact ⟨_, ret_vb E1.out.symm, by rw [E2.out]; exact HO.out, HB.out⟩

/-- BOTH READ THE SAME. -/
theorem parse_same (s : ByteArray) : okPI s = okPS s ∧ resPI s = resPS s := by
  cases h : okPS s
  · cases h2 : okPI s
    · exact ⟨rfl, by unfold resPI resPS; rw [h, h2]; rfl⟩
    · unfold okPI okNN at h2
      rw [Bool.and_eq_true, Bool.and_eq_true, decide_eq_true_iff] at h2
      have h3 := okRa3 h2.2
      have h4 := okNums_len h2.2
      have h5 := read3 h3
      have h6 := txt3_ends h3
      rw [h2.1.2] at h5 h6
      unfold okPS at h
      rw [h5, h2.2, decide_eq_true (by omega)] at h
      cases h
  · have hh := h
    unfold okPS at hh
    rw [Bool.and_eq_true, decide_eq_true_iff] at hh
    have h3 := okRa3 hh.2
    have h4 := okNums_len hh.2
    have h5 := readP_back (s := s) fun x hx => (h3.2 x hx).1
    have h6 := nums3 h3 9 (by omega)
    have h7 := okNN3 h3 9 (by omega)
    rw [h5] at h6 h7
    have e : okPI s = true := by unfold okPI; rw [h7, h6, hh.2]; rfl
    exact ⟨e, by unfold resPI resPS; rw [h, e, h6]⟩
theorem resPS_len (s : ByteArray) : (resPS s).length ≤ 1048576 := by
  unfold resPS
  split
  · next h =>
    unfold okPS at h
    rw [Bool.and_eq_true] at h
    have := (okNums_len h.2).2
    omega
  · exact Nat.zero_le _
theorem implParseRails_any (s : ByteArray) (w : World) (hs : s.size ≤ 1048576) (he : Env w.heap.size w) :
    Calls Tryd.prog 26 #[.string s] w fun e w' => ∃ v, e = .returned (.tuple #[v, .bool (okPS s)]) ∧ OwnInts w' w.heap.size 3 v (resPS s) ∧ Below w.heap.size w w' := by
  obtain ⟨e1, e2⟩ := parse_same s
  rw [← e1, ← e2]
  exact implParse_any s w hs he
end Go.Proofs.YtbocdhibimcobaaDoor

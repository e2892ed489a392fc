/- 'impl.parseNumbers'. No condition but the text's length and the most; the library's variables read as they are laid. -/
import Derived.Test.YtbocdhibimcobaaDoorGaPImpl
namespace Go.Proofs.YtbocdhibimcobaaDoor.Ga
open Go.RowKit

theorem okNN_bad {s : ByteArray} {n k : Nat} (h : k < (wordsN s n).length) (hb : isNum (wordsN s n)[k] = false) : okNN s n = false ∧ resNN s n = [] := by
  have e : okNN s n = false := by
    unfold okNN
    have : (wordsN s n).all isNum = false := by
      rw [List.all_eq_false]
      exact ⟨_, List.getElem_mem h, by simp [hb]⟩
    rw [this]; rfl
  exact ⟨e, by unfold resNN; rw [e]; rfl⟩
theorem okNN_ne {s : ByteArray} {n : Nat} (h : txt (numsN s n) ≠ s) : okNN s n = false ∧ resNN s n = [] := by
  have e : okNN s n = false := by unfold okNN; rw [decide_eq_false h]; simp
  exact ⟨e, by unfold resNN; rw [e]; rfl⟩
theorem okNN_yes {s : ByteArray} {n : Nat} (h : (wordsN s n).all isNum = true) (h2 : txt (numsN s n) = s) : okNN s n = true ∧ resNN s n = numsN s n := by
  have e : okNN s n = true := by unfold okNN; rw [decide_eq_true h2, h]; rfl
  exact ⟨e, by unfold resNN; rw [e]; rfl⟩
theorem all_snoc {P : List ByteArray} {k : Nat} (h : k < P.length) (h1 : (P.take k).all isNum = true) (h2 : isNum P[k] = true) : (P.take (k + 1)).all isNum = true := by
  rw [List.take_succ_eq_append_getElem h, List.all_append, h1]; simp [h2]

set_option maxRecDepth 100000 in
set_option maxHeartbeats 4000000 in
theorem parseNumbers_any (s : ByteArray) (q : Nat) (w : World) (hs : s.size ≤ 1048576) (he : Env w.heap.size w) (hq1 : 1 ≤ q) (hq2 : q ≤ 40) :
    Calls Tryd.prog 37 #[.string s, .string ⟨#[124]⟩, .int .i64 q] w fun e w' => ∃ v, e = .returned (.tuple #[v, .bool (okNN s (q + 1))]) ∧ OwnInts w' w.heap.size 3 v (resNN s (q + 1)) ∧ Below w.heap.size w w' := by
  obtain ⟨i0, hi, hz0, hz1, hz2⟩ := info_parts info_int
  have HE := Lib.hid he
  have HSP := Lib.hid (split_n s (q + 1) w he hs (by omega) (by omega))
  have HPOS := Lib.hid (wordsN_pos s (q + 1))
  have HLEN := Lib.hid (wordsN_len s (q + 1) (by omega))
  have HWS := Lib.hid (fun p (hp : p ∈ wordsN s (q + 1)) => split_size ⟨#[124]⟩ 0 _ s p hp)
  have h13 : ((q + 1 : Nat) : Int) = (q : Int) + 1 := by omega
  rw [h13] at HSP
  clear h13 he
  obtain ⟨n, hn⟩ : ∃ n, n = (wordsN s (q + 1)).length := ⟨_, rfl⟩
  go_enter Tryd.func37, Tryd.ntmps37
  go_wp2_with (go_at_call 56; refine HSP.out.mono ?_; rintro e w1 ⟨c, rfl, hc, hb, hgz, hcells⟩; rw [← hn] at hc ⊢; have HCL := Lib.hid hcells; clear hcells)
  have HB1 := Lib.hid hb
  have hbz := hb.size
  clear hb
  go_loopw [8, 10, 11, 12, 19] (fun o _ _ _ i wr => ∃ k : Nat, k ≤ n ∧ i = .int .i64 k ∧ OwnInts wr w1.heap.size 3 o ((numsN s (q + 1)).take k) ∧ Below w1.heap.size w1 wr ∧ ((wordsN s (q + 1)).take k).all isNum = true) (fun _ _ _ _ i _ => n - (intOf i).toNat)
  case atStart => exact ⟨0, Nat.zero_le _, rfl, OwnInts.nil _ _ _, Below.refl _ _, rfl⟩
  case round =>
    obtain ⟨k, hk, rfl, hown, hb, hall⟩ := hrel
    have HO := Lib.hid hown
    have HB := Lib.hid hb
    have HA := Lib.hid hall
    have hbs := hb.size
    have hpl := HPOS.out
    have hpl2 := HLEN.out
    obtain ⟨A6, c6, hv6⟩ := hown.len
    subst hv6
    clear hall
    have HENV := Lib.hid (env_at HE.out (below_nextN HB1.out hbz hb))
    by_cases hlt : k < n
    · have hlt' : k < (wordsN s (q + 1)).length := by omega
      have d1 : wr.cell? ⟨w.heap.size, k, none⟩ = some (.string (wordsN s (q + 1))[k]) := by
        rw [hb.cell (p := ⟨w.heap.size, k, none⟩) hgz]
        exact HCL.out k hlt'
      have hsz := HWS.out _ (List.getElem_mem hlt')
      cases hok : isNum (wordsN s (q + 1))[k]
      · obtain ⟨e1, e2⟩ := okNN_bad hlt' hok
        have E1 := Lib.hid e1
        have E2 := Lib.hid e2
        have HAT := Lib.hid (atoi_no _ wr HENV.out (by omega) hok)
        obtain ⟨p, hp⟩ : ∃ p, p = (wordsN s (q + 1))[k] := ⟨_, rfl⟩
        rw [← hp] at d1 HAT
        clear hown hb hok e1 e2 hp hsz
        go_wp2_with (go_at_call 57; refine HAT.out.mono ?_; rintro e w2 ⟨v, t, a, rfl, hb2⟩; have HB2 := Lib.hid (below_nextN (below_nextN HB1.out hbz HB.out) (by omega) hb2); clear hb2)
        go_ret2
        exact ⟨_, ret_vb E1.out.symm, by rw [E2.out]; exact OwnInts.nil _ _ _, HB2.out⟩
      · have HRS := Lib.hid (nums_succ hlt')
        have HAS := Lib.hid (all_snoc hlt' HA.out hok)
        have HAT := Lib.hid (atoi_yes _ wr (by omega) hok)
        obtain ⟨p, hp⟩ : ∃ p, p = (wordsN s (q + 1))[k] := ⟨_, rfl⟩
        rw [← hp] at d1 HAT HRS
        obtain ⟨x, hx⟩ : ∃ x, x = numOf p := ⟨_, rfl⟩
        rw [← hx] at HAT HRS
        obtain ⟨Q, hQ⟩ : ∃ Q, Q = (numsN s (q + 1)).take k := ⟨_, rfl⟩
        have hql : Q.length ≤ 49 := by rw [hQ, List.length_take]; unfold numsN; rw [List.length_map]; omega
        rw [← hQ] at HO HRS ⊢
        clear hown hb hok hp hx hQ hlt' hsz
        go_wp2_with (first
          | (go_at_call 57; refine HAT.out.mono ?_; rintro e w2 ⟨rfl, hb2⟩; have HO2 := Lib.hid (HO.out.below hb2); have HB2 := Lib.hid (below_nextN HB.out hbs hb2); have hbs2 := HB2.out.size; clear hb2)
          | (at_builtin; refine wpList_append_own _ rfl (.tmp 30) (.tmp 32) _ rfl w1.heap.size 3 i0 _ 1 8 Tryd.underlying22 hi hz0 hz1 hz2 rfl (by decide) _ Q.length (Q.map (Value.int .i64)) rfl (World.ownsRow.alloc HO2.out _) ⟨_, 0, none⟩ 1 1 [.int .i64 x] rfl rfl (World.news_of_block (cs := #[.int .i64 x]) (t := 3) (fr := (0, 0)) (heap_alloc_new _ _)) (by simp [Value.oneCell']) (by unfold maxLen; omega) (by omega) (by simp; omega) ?_; intro v' w3 hown' hgrow _; have HR : Hid (OwnInts w3 w1.heap.size 3 v' (Q ++ [x])) := Lib.hid (OwnInts.snoc hown'); have HB3 := Lib.hid ((HB2.out.alloc hbs2 _).grown hgrow (by simp; omega) fun k hk => (World.ownsRow.lt HO2.out k hk).1); clear hown' hgrow))
        go_roundw
        case rel => exact ⟨k + 1, by omega, by go_num, by rw [HRS.out]; exact HR.out, HB3.out, HAS.out⟩
        case measure => simp [intOf]; omega
    · obtain rfl : k = n := by omega
      have hL : (numsN s (q + 1)).take k = numsN s (q + 1) := List.take_of_length_le (by unfold numsN; rw [List.length_map]; omega)
      have hA : (wordsN s (q + 1)).all isNum = true := by
        have := HA.out
        rw [List.take_of_length_le (by omega)] at this
        exact this
      rw [hL] at HO ⊢
      have HIS := Lib.hid (IntSl.of_own HO.out)
      have HBE := Lib.hid (below_nextN HB1.out hbz hb)
      have HTX := Lib.hid (numbersText_any A6 c6 (numsN s (q + 1)) wr (few_nums s (q + 1) (by omega)) HIS.out HENV.out.1)
      clear hown hb hL
      by_cases heq : txt (numsN s (q + 1)) = s
      · obtain ⟨e1, e2⟩ := okNN_yes hA heq
        have E1 := Lib.hid e1
        have E2 := Lib.hid e2
        rw [heq] at HTX
        clear e1 e2 heq hA
        go_wp2_with (go_at_call 34; refine HTX.out.mono ?_; rintro e w2 ⟨rfl, hb2⟩; have HO2 := Lib.hid (HO.out.below hb2); have HB2 := Lib.hid (below_next HBE.out hb2); clear hb2)
        go_ret2
        exact ⟨_, ret_vb E1.out.symm, by rw [E2.out]; exact HO2.out.mono hbz, HB2.out⟩
      · obtain ⟨e1, e2⟩ := okNN_ne heq
        have E1 := Lib.hid e1
        have E2 := Lib.hid e2
        obtain ⟨y, hy⟩ : ∃ y, y = txt (numsN s (q + 1)) := ⟨_, rfl⟩
        rw [← hy] at HTX heq
        have hn1 : (y.toList == s.toList) = false := by
          rw [beq_eq_false_iff_ne]
          intro h
          exact heq (bytes_ext (by rw [← ByteArray.toList_eq, ← ByteArray.toList_eq]; exact h))
        clear e1 e2 heq hy hA
        go_wp2_with (go_at_call 34; refine HTX.out.mono ?_; rintro e w2 ⟨rfl, hb2⟩; have HB2 := Lib.hid (below_next HBE.out hb2); clear hb2)
        go_ret2
        exact ⟨_, ret_vb E1.out.symm, by rw [E2.out]; exact OwnInts.nil _ _ _, HB2.out⟩

end Go.Proofs.YtbocdhibimcobaaDoor.Ga

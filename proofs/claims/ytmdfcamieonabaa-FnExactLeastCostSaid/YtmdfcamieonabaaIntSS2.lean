/- 'laws.szIntSS', 'laws.toIntSS'. No condition but the lists' lengths. -/
import Derived.Test.YtmdfcamieonabaaIntSS
namespace Go.Proofs.Ytmdfcamieonabaa
open Go.RowKit

set_option maxHeartbeats 400000 in
theorem szIntS_any (A : Option Addr) (n c : Nat) (l : Int) (w : World) (hn : n ≤ maxLen) (l0 : 0 ≤ l) (l1 : l ≤ 1048576) :
    Calls Try.prog 52 #[.slice A n c, .int .i64 l] w fun e w' => e = .returned (.int .i64 (if l < n then -1 else l - n)) ∧ w = w' := by
  unfold maxLen at hn
  by_cases h : l < (n : Int)
  · rw [if_pos h]
    have hd : decide (l - (n : Int) < 0) = true := decide_eq_true (by omega)
    have hwr : IntKind.i64.wrap (l - (n : Int)) = l - (n : Int) := IntWalk.i64_in _ (by omega)
    go_enter Try.func52, Try.ntmps52
    go_wp2
    go_ret
    exact ⟨rfl, rfl⟩
  · rw [if_neg h]
    have hd : decide (l - (n : Int) < 0) = false := decide_eq_false (by omega)
    have hwr : IntKind.i64.wrap (l - (n : Int)) = l - (n : Int) := IntWalk.i64_in _ (by omega)
    go_enter Try.func52, Try.ntmps52
    go_wp2
    go_ret
    exact ⟨rfl, rfl⟩

theorem szL_take {LL : List (List Int)} {j : Nat} (h : j < LL.length) : szL (LL.take (j + 1)) = szL (LL.take j) + LL[j].length := by
  rw [List.take_succ_eq_append_getElem h, szL_append]; rfl
theorem szL_take_le (LL : List (List Int)) (j : Nat) : szL (LL.take j) ≤ szL LL := by
  have := szL_append (LL.take j) (LL.drop j)
  rw [List.take_append_drop] at this; omega

theorem szL_mem : ∀ {LL : List (List Int)} {L : List Int}, L ∈ LL → L.length ≤ szL LL
  | M :: R, L, h => by
    show L.length ≤ M.length + szL R
    rcases List.mem_cons.1 h with rfl | h
    · omega
    · have := szL_mem h; omega
theorem SSok_of {LL : List (List Int)} (h : LL.length + szL LL ≤ 1048576) : SSok LL :=
  ⟨by omega, fun L hL => by have := szL_mem hL; omega, by omega⟩
set_option maxHeartbeats 1000000 in
theorem szIntSS_any (A : Option Addr) (c : Nat) (LL : List (List Int)) (w : World) (hn : LL.length ≤ maxLen) (hl : ∀ L ∈ LL, L.length ≤ maxLen) (h : IntSS w A LL) :
    Calls Try.prog 24 #[.slice A LL.length c, .int .i64 1048576] w fun e w' => ∃ r : Int, e = .returned (.int .i64 r) ∧ (r < 0 ∨ 0 ≤ r ∧ LL.length + szL LL ≤ 1048576) ∧ w = w' := by
  have hn2 := hn
  unfold maxLen at hn2
  have HL := Lib.hid hl
  clear hl
  by_cases hb : LL.length ≤ 1048576
  · rcases Nat.eq_zero_or_pos LL.length with h0 | h0
    · obtain rfl : LL = [] := List.eq_nil_of_length_eq_zero h0
      clear h h0 hn hb hn2
      go_enter Try.func24, Try.ntmps24
      go_wp2
      refine wp_loop_rounds 1 ?_
      rw [rounds_succ]
      go_wp2
      go_ret
      exact ⟨_, rfl, .inr ⟨by decide, Nat.zero_le _⟩, rfl⟩
    · obtain ⟨g, off, rfl, hg, hat⟩ := h.some h0
      have HAT := Lib.hid hat
      clear hat h
      have hd0 : decide ((1048576 : Int) - (LL.length : Int) < 0) = false := decide_eq_false (by omega)
      have hwr0 : IntKind.i64.wrap ((1048576 : Int) - (LL.length : Int)) = (1048576 : Int) - (LL.length : Int) := IntWalk.i64_in _ (by omega)
      go_enter Try.func24, Try.ntmps24
      go_wp2
      go_loop [1, 5] (fun l i => ∃ (j : Nat) (r : Int), j ≤ LL.length ∧ i = .int .i64 j ∧ l = .int .i64 r ∧ 0 ≤ r ∧ r = 1048576 - (LL.length : Int) - (szL (LL.take j) : Nat)) (fun _ i => LL.length - (intOf i).toNat)
      case atStart => exact ⟨0, 1048576 - (LL.length : Int), Nat.zero_le _, rfl, rfl, by omega, by rw [List.take_zero]; show _ = _ - ((0 : Nat) : Int); omega⟩
      case round =>
        clear hd0 hwr0
        obtain ⟨j, r, hj, rfl, rfl, hr0, hr⟩ := hrel
        by_cases hlt : j < LL.length
        · obtain ⟨B, cB, k1, -⟩ := HAT.out j hlt
          have hm := HL.out LL[j] (List.getElem_mem _)
          have hs := szL_take hlt
          obtain ⟨n, hnn⟩ : ∃ n, n = LL[j].length := ⟨_, rfl⟩
          rw [← hnn] at k1 hm hs
          have HC := Lib.hid fun W => szIntS_any B n cB r W hm hr0 (by omega)
          by_cases hx : r < (n : Int)
          · rw [if_pos hx] at HC
            clear hr hs hnn
            go_wp2_with (go_at_call 52; refine (HC.out _).mono ?_; rintro e w' ⟨rfl, rfl⟩)
            go_ret
            exact ⟨_, rfl, .inl (by decide), rfl⟩
          · rw [if_neg hx] at HC
            obtain ⟨q, hq⟩ : ∃ q, q = r - (n : Int) := ⟨_, rfl⟩
            rw [← hq] at HC
            have hq0 : 0 ≤ q := by omega
            have hd : decide (q < 0) = false := decide_eq_false (by omega)
            have HQ : Hid (q = 1048576 - (LL.length : Int) - (szL (LL.take (j + 1)) : Nat)) := Lib.hid (by rw [hs]; omega)
            clear hr hs hnn hq
            go_wp2_with (go_at_call 52; refine (HC.out _).mono ?_; rintro e w' ⟨rfl, rfl⟩)
            go_round
            case rel => exact ⟨j + 1, q, by omega, by go_num, rfl, hq0, HQ.out⟩
            case measure => simp [intOf]; omega
        · obtain rfl : j = LL.length := by omega
          have HR : Hid (0 ≤ r ∧ LL.length + szL LL ≤ 1048576) := Lib.hid ⟨hr0, by rw [List.take_length] at hr; omega⟩
          clear hr
          go_wp2
          go_ret
          exact ⟨_, rfl, .inr HR.out, rfl⟩
  · have hd0 : decide ((1048576 : Int) - (LL.length : Int) < 0) = true := decide_eq_true (by omega)
    have hwr0 : IntKind.i64.wrap ((1048576 : Int) - (LL.length : Int)) = (1048576 : Int) - (LL.length : Int) := IntWalk.i64_in _ (by omega)
    clear h
    go_enter Try.func24, Try.ntmps24
    go_wp2
    go_ret
    exact ⟨_, rfl, .inl (by decide), rfl⟩

/-- one of the lists is replaced by a list of the call's own, just made -/
theorem RowsTo.putOwn {wr w1 : World} {base g n cap i : Nat} {vs : List Value} {LL : List (List Int)} {L : List Int} {nv : Value} (h : RowsTo wr base wr.heap.size (.slice (some ⟨g, 0, none⟩) n cap) vs (LL.map intsV)) (hbase : base ≤ wr.heap.size)
    (hb : Below wr.heap.size wr w1) (ho : w1.ownsRow wr.heap.size 3 1 nv L.length (intsV L)) (hi : i < vs.length) :
    RowsTo (w1.setCell ⟨g, i, none⟩ nv) base (w1.setCell ⟨g, i, none⟩ nv).heap.size (.slice (some ⟨g, 0, none⟩) n cap) (vs.set i nv) ((LL.set i L).map intsV) := by
  have hg : g < wr.heap.size := h.top1 g rfl
  have hn : n = vs.length := by
    rcases h.out.2 with ⟨hv, _⟩ | ⟨g', cap', cur, hv, _⟩
    · cases hv
    · injection hv
  subst hn
  have h1 := h.below hb
  obtain ⟨so, sg⟩ := h1.out.stored i nv
  have hs : (w1.setCell ⟨g, i, none⟩ nv).heap.size = w1.heap.size := by simp [World.setCell]
  have hb1 := hb.size
  have hown : ∀ k, nv.ownBlock = some k → wr.heap.size ≤ k ∧ k < w1.heap.size := fun k hk => World.ownsRow.lt ho k hk
  have hat : ∀ (j : Nat) (u : Value), (vs.set i nv)[j]? = some u → (j = i ∧ u = nv) ∨ (j ≠ i ∧ vs[j]? = some u) := fun j u hu => by
    by_cases e : j = i
    · subst e
      rw [List.getElem?_set_self hi] at hu
      exact .inl ⟨rfl, (Option.some.inj hu).symm⟩
    · rw [List.getElem?_set_ne (fun x => e x.symm)] at hu
      exact .inr ⟨e, hu⟩
  have hl : LL.length = vs.length := by have := h.len; rw [List.length_map] at this; exact this.symm
  have hnew : (w1.setCell ⟨g, i, none⟩ nv).ownsRow base 3 1 nv (intsV L).length (intsV L) := by
    rw [intsV_len]
    exact own_mono (own_apart ho sg fun k hk e => by
      have := hown k hk
      have e' : g = k := Option.some.inj e
      omega) hbase
  refine ⟨by rw [List.length_set]; exact so, by rw [List.length_set, List.length_map, List.length_set, hl], fun j u z h1' h2 => ?_, fun j u h1' k hk e => ?_, fun j j2 u x hj h1' h2 k hk e => ?_, fun k hk => by rw [hs]; have := h.top1 k hk; omega, fun j u h1' k hk => ?_⟩
  · rw [List.map_set] at h2
    rcases hat j u h1' with ⟨rfl, rfl⟩ | ⟨hj, h3⟩
    · rw [List.getElem?_set_self (by rw [List.length_map, hl]; exact hi)] at h2
      obtain rfl := Option.some.inj h2
      exact hnew
    · rw [List.getElem?_set_ne (fun x => hj x.symm)] at h2
      exact own_apart (h1.row j u z h3 h2) sg fun k hk e => h.far j u h3 k hk e
  · rcases hat j u h1' with ⟨rfl, rfl⟩ | ⟨hj, h3⟩
    · have := hown k hk
      have e' : g = k := Option.some.inj e
      omega
    · exact h.far j u h3 k hk e
  · rcases hat j u h1' with ⟨rfl, rfl⟩ | ⟨hj1, h3⟩
    · rcases hat j2 x h2 with ⟨rfl, rfl⟩ | ⟨hj2, h4⟩
      · exact hj rfl
      · have := hown k hk
        have := h.top2 j2 x h4 k e
        omega
    · rcases hat j2 x h2 with ⟨rfl, rfl⟩ | ⟨hj2, h4⟩
      · have := hown k e
        have := h.top2 j u h3 k hk
        omega
      · exact h.apart j j2 u x hj h3 h4 k hk e
  · rw [hs]
    rcases hat j u h1' with ⟨rfl, rfl⟩ | ⟨hj, h3⟩
    · exact (hown k hk).2
    · have := h.top2 j u h3 k hk; omega

set_option maxRecDepth 20000 in
set_option maxHeartbeats 4000000 in
theorem toIntSS_any (A : Option Addr) (c : Nat) (LL : List (List Int)) (w : World) (hn : SSok LL) (h : IntSS w A LL) :
    Calls Try.prog 26 #[.slice A LL.length c] w fun e w' => e = .returned (.slice (some ⟨w.heap.size, 0, none⟩) LL.length LL.length) ∧ OwnSS w' w.heap.size w'.heap.size (.slice (some ⟨w.heap.size, 0, none⟩) LL.length LL.length) LL ∧ Below w.heap.size w w' := by
  obtain ⟨i0, hi, hz0, hz1, hz2⟩ := info_parts info_intsl
  have hlen := hn.1
  have HLn := Lib.hid hn.2.1
  clear hn
  rcases Nat.eq_zero_or_pos LL.length with h0 | h0
  · obtain rfl : LL = [] := List.eq_nil_of_length_eq_zero h0
    clear h h0
    go_enter Try.func26, Try.ntmps26
    go_wp2_with (at_make; refine wpList_make_full _ rfl (.tmp 6) (.tmp 6) _ rfl w.heap.size 59 i0 _ 1 Try.underlying35 hi hz0 hz1 .i64 .i64 _ _ 0 rfl rfl rfl rfl (by rw [hz2]; omega) (Nat.zero_le _) (Nat.le_refl _) ?_; intro w1 hown hgrow)
    have he := List.eq_nil_of_length_eq_zero (hown.1.trans (Nat.zero_mul 1))
    rw [he] at hown
    have HG := Lib.hid ((Below.refl _ _).grown hgrow (Nat.le_refl _) (fun k hk => by cases hk))
    have HM : Hid (OwnSS w1 w.heap.size w1.heap.size (.slice (some ⟨w.heap.size, 0, none⟩) 0 0) []) := Lib.hid ⟨_, RowsTo.made (n := 0) hown (Nat.le_refl _) [] rfl⟩
    clear hown hgrow he
    refine wp_loop_rounds 1 ?_
    rw [rounds_succ]
    go_wp2
    go_ret
    exact ⟨rfl, HM.out, HG.out⟩
  · obtain ⟨g, off, rfl, hg, hat⟩ := h.some h0
    have HAT := Lib.hid hat
    clear hat h
    go_enter Try.func26, Try.ntmps26
    go_wp2_with (at_make; refine wpList_make_full _ rfl (.tmp 6) (.tmp 6) _ rfl w.heap.size 59 i0 _ 1 Try.underlying35 hi hz0 hz1 .i64 .i64 _ _ LL.length rfl rfl rfl rfl (by rw [hz2]; omega) (by unfold maxLen; omega) (Nat.le_refl _) ?_; intro w1 hown hgrow)
    have hmk : (madeCells (Value.slice none 0 0).cells (LL.length * 1)).toList = List.replicate LL.length (.slice none 0 0) := by rw [Nat.mul_one]; exact toList_madeCells_one _ _
    have HG := Lib.hid ((Below.refl _ _).grown hgrow (Nat.le_refl _) (fun k hk => by cases hk))
    have HM : Hid (∃ vs, RowsTo w1 w.heap.size w1.heap.size (.slice (some ⟨w.heap.size, 0, none⟩) LL.length LL.length) vs ((fillL LL 0).map intsV)) := Lib.hid ⟨_, RowsTo.made (by rw [← hmk]; exact hown) (Nat.le_refl _) LL rfl⟩
    clear hown hgrow hmk
    go_loopw [4] (fun i wr => ∃ j : Nat, j ≤ LL.length ∧ i = .int .i64 j ∧ (∃ vs, RowsTo wr w.heap.size wr.heap.size (.slice (some ⟨w.heap.size, 0, none⟩) LL.length LL.length) vs ((fillL LL j).map intsV)) ∧ Below w.heap.size w wr) (fun i _ => LL.length - (intOf i).toNat)
    case atStart => exact ⟨0, Nat.zero_le _, rfl, HM.out, HG.out⟩
    case round =>
      clear HM HG
      obtain ⟨j, hj, rfl, ⟨vs, hrows⟩, hb⟩ := hrel
      have HB := Lib.hid hb
      have hbs := hb.size
      have hVl := hrows.top1 w.heap.size rfl
      by_cases hlt : j < LL.length
      · obtain ⟨B, cB, k1, hsl⟩ := HAT.out j hlt
        rw [← (bcell hb).1 g _ hg] at k1
        have hsl2 := Lib.hid (hsl.below hb)
        have hLl := HLn.out LL[j] (List.getElem_mem _)
        have hvl : vs.length = LL.length := by rw [hrows.len, List.length_map, fillL_len (by omega)]
        have HE := Lib.hid (fillL_set hlt)
        obtain ⟨L, hL⟩ : ∃ L, L = LL[j] := ⟨_, rfl⟩
        rw [← hL] at k1 hsl2 hLl HE
        have HT := Lib.hid (toIntS_any B cB L wr hLl hsl2.out)
        have HRW := Lib.hid hrows
        have hout := hrows.out
        rw [hvl] at hout
        have hfrz := hout.frozenAt j
        have hcl := hout.cellAt j (by omega)
        rw [List.getElem?_eq_getElem (by omega)] at hcl
        obtain ⟨u, hu⟩ : ∃ u, u = vs[j]'(by omega) := ⟨_, rfl⟩
        rw [← hu] at hcl
        clear hu hout hrows hL hsl hsl2 hb
        go_wp2_with fail
        refine HT.out.mono ?_
        rintro e w2 ⟨rfl, ho2, hb2⟩
        have hf2 : w2.frozen? ⟨w.heap.size, j, none⟩ = false := by rw [(bcell hb2).2 _ _ hVl]; exact hfrz
        have hc2 : w2.cell? ⟨w.heap.size, j, none⟩ = some u := by rw [(bcell hb2).1 _ _ hVl]; exact hcl
        have HR := Lib.hid (RowsTo.putOwn HRW.out hbs hb2 ho2 (i := j) (by omega))
        rw [HE.out] at HR
        have HB3 := Lib.hid (below_store (below_nextN HB.out hbs hb2) (Nat.le_refl _) j (.slice (some ⟨wr.heap.size, 0, none⟩) L.length L.length))
        clear hfrz hcl ho2 hb2
        go_wp2
        go_roundw
        case rel => exact ⟨j + 1, by omega, by go_num, ⟨_, HR.out⟩, HB3.out⟩
        case measure => simp [intOf]; omega
      · obtain rfl : j = LL.length := by omega
        have HV : Hid (OwnSS wr w.heap.size wr.heap.size (.slice (some ⟨w.heap.size, 0, none⟩) LL.length LL.length) LL) := Lib.hid ⟨vs, by rw [fillL_end] at hrows; exact hrows⟩
        clear hrows
        go_wp2
        go_ret
        exact ⟨rfl, HV.out, HB.out⟩
end Go.Proofs.Ytmdfcamieonabaa

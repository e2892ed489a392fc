/- ParseStrokes of the model. No condition but the text's length. -/
import Derived.Test.YtnijedmnjmeciaaDoorStMath
import Derived.Test.YtnijedmnjmeciaaDoorTxStepApp
import Derived.Deep.RegionHeld3
namespace Go.Proofs.YtnijedmnjmeciaaDoor
open Go.RowKit
open Tx (pieces OwnStrs pieces_size)

theorem ret_vbS {v : Value} {a b : Bool} (h : a = b) : Ending.returned (.tuple #[v, .bool a]) = .returned (.tuple #[v, .bool b]) := by rw [h]
/-- an own list of strokes -/
def OwnStk (w : World) (base : Nat) (v : Value) (L : List Strk) : Prop := w.ownsRow base 43 3 v L.length (strkCells L)
theorem OwnStk.snoc {w : World} {base : Nat} {v : Value} {L : List Strk} {x : Strk} (h : w.ownsRow base 43 3 v (L.length + 1) (strkCells L ++ [.int .i64 x.f, .int .i64 x.t, .string x.c])) : OwnStk w base v (L ++ [x]) := by
  unfold OwnStk
  have e : strkCells (L ++ [x]) = strkCells L ++ [.int .i64 x.f, .int .i64 x.t, .string x.c] := by
    unfold strkCells; rw [List.flatMap_append]; simp [Strk.vals]
  rw [e, List.length_append]
  exact h
theorem OwnStk.nil (w : World) (base : Nat) : OwnStk w base (.slice none 0 0) [] := World.ownsRow_nil w base _ 3
theorem OwnStk.mono {w : World} {base b2 : Nat} {v : Value} {L : List Strk} (h : OwnStk w base v L) (hb : b2 ≤ base) : OwnStk w b2 v L := Tx.own_mono h hb
theorem two_of {P : List ByteArray} (h : P.length = 2) : ∃ a b, P = [a, b] := by
  match P, h with
  | [a, b], _ => exact ⟨a, b, rfl⟩
theorem stkS_no {t : ByteArray} (h : (pieces t 45).length ≠ 2) : stkS t = none := by
  unfold stkS
  split
  · rename_i a b e; rw [e] at h; exact absurd rfl h
  · rfl
theorem stkS_two {t a b : ByteArray} (h : pieces t 45 = [a, b]) : stkS t = if b.size = 0 then none else some ⟨readS a, readS (b.extract 0 (b.size - 1)), b.extract (b.size - 1) b.size⟩ := by
  unfold stkS; rw [h]
theorem okG_bad {P : List ByteArray} {g : ByteArray → Option Strk} {s : ByteArray} {k : Nat} (hk : k < P.length) (h : g P[k] = none) : okG P g s = false := by
  have : P.all (fun p => (g p).isSome) = false := by
    rw [List.all_eq_false]
    exact ⟨P[k], List.getElem_mem hk, by rw [h]; decide⟩
  unfold okG; rw [this, Bool.false_and]
theorem read_succ {P : List ByteArray} {g : ByteArray → Option Strk} {k : Nat} {x : Strk} (hk : k < P.length) (h : g P[k] = some x) : (P.take (k + 1)).filterMap g = (P.take k).filterMap g ++ [x] := by
  rw [List.take_succ_eq_append_getElem hk, List.filterMap_append]; simp [h]
theorem all_succG {P : List ByteArray} {g : ByteArray → Option Strk} {k : Nat} {x : Strk} (hk : k < P.length) (h : g P[k] = some x) (ha : (P.take k).all (fun p => (g p).isSome) = true) : (P.take (k + 1)).all (fun p => (g p).isSome) = true := by
  rw [List.take_succ_eq_append_getElem hk, List.all_append, ha]; simp [h]
theorem okPS_no {s : ByteArray} (h0 : s.size ≠ 0) (h : okG (pieces s 44) stkS s = false) : okPS s = false ∧ resPS s = [] := by
  have e : okPS s = false := by unfold okPS; rw [decide_eq_false h0, h, Bool.and_false]; rfl
  exact ⟨e, by unfold resPS; rw [if_neg h0, e]; rfl⟩
theorem okPS_yes {s : ByteArray} (h0 : s.size ≠ 0) (h2 : s.size ≤ 280) (h : okG (pieces s 44) stkS s = true) : okPS s = true ∧ resPS s = (pieces s 44).filterMap stkS := by
  have e : okPS s = true := by unfold okPS; rw [h, decide_eq_true h2]; simp
  exact ⟨e, by unfold resPS; rw [if_neg h0, if_pos e]⟩
theorem okG_all {P : List ByteArray} {g : ByteArray → Option Strk} {s : ByteArray} (ha : P.all (fun p => (g p).isSome) = true) (b : Bool) (hb : okList 20 (P.filterMap g) = b) (c : Bool) (hc : ((txB (P.filterMap g)).toList == s.toList) = c) : okG P g s = (b && c) := by
  unfold okG; rw [ha, hb, hc]; rfl
theorem str_at {P : List ByteArray} {k : Nat} (h : k < P.length) : (P.map Value.string)[k]? = some (.string P[k]) := by
  rw [List.getElem?_map, List.getElem?_eq_getElem h]; rfl

theorem not_empty {s : ByteArray} (h0 : s.size ≠ 0) : s.toList.isEmpty = false := by
  rw [ByteArray.toList_eq]
  cases h : s.data.toList with
  | nil =>
    have : s.data.toList.length = 0 := by rw [h]; rfl
    exact absurd (by simpa using this) h0
  | cons => rfl

theorem empty_of {b : ByteArray} (h : b.size = 0) : b = ⟨#[]⟩ := bytes_ext (by
  have : b.data.toList.length = 0 := by simpa using h
  exact List.eq_nil_of_length_eq_zero this)
theorem two_own {W : World} {base : Nat} {v : Value} {a b : ByteArray} (h : OwnStrs W base v [a, b]) : ∃ g c, v = .slice (some ⟨g, 0, none⟩) 2 c ∧ base ≤ g ∧ g < W.heap.size ∧ W.cell? ⟨g, 0, none⟩ = some (.string a) ∧ W.cell? ⟨g, 1, none⟩ = some (.string b) := by
  have h2 : W.ownsRow base 9 1 v 2 [.string a, .string b] := h
  obtain ⟨g, c, rfl, h3, h4⟩ := Tx.own_some h2 (by omega)
  exact ⟨g, c, rfl, h3, h4, h2.cellAt 0 (by omega), h2.cellAt 1 (by omega)⟩
theorem cell_grown {W W' : World} {row : Option Nat} {g i : Nat} (hg : W.grownBy W' row) (hlt : g < W.heap.size) (hne : some g ≠ row) : W'.cell? ⟨g, i, none⟩ = W.cell? ⟨g, i, none⟩ := by
  have h := hg.block g hlt hne
  unfold World.cell?
  simp only [h]

theorem stkS_c {t : ByteArray} {x : Strk} (h : stkS t = some x) : x.c.size ≤ 1 := by
  unfold stkS at h
  split at h
  · split at h
    · cases h
    · rw [← Option.some.inj h]
      show (ByteArray.extract _ _ _).size ≤ 1
      rw [ByteArray.size_extract]; omega
  · cases h
theorem short_read (P : List ByteArray) : Short (P.filterMap stkS) := fun k hk => by
  obtain ⟨p, -, hp⟩ := List.mem_filterMap.1 (List.getElem_mem hk)
  exact Nat.le_trans (stkS_c hp) (by decide)

theorem stParse_none (w : World) :
    Calls Tryd.prog 26 #[.string ⟨#[]⟩] w fun e w' => ∃ v, e = .returned (.tuple #[v, .bool (okPS ⟨#[]⟩)]) ∧ OwnStk w' w.heap.size v (resPS ⟨#[]⟩) ∧ Below w.heap.size w w' := by
  have e1 : okPS ⟨#[]⟩ = true := rfl
  have e2 : resPS ⟨#[]⟩ = [] := rfl
  rw [e1, e2]
  go_enter Tryd.func26, Tryd.ntmps26
  go_wp2
  go_ret2
  exact ⟨_, rfl, OwnStk.nil _ _, Below.refl _ _⟩

set_option maxRecDepth 100000 in
set_option maxHeartbeats 8000000 in
theorem stParse_any (s : ByteArray) (w : World) (_ : s.size ≤ maxLen) (h0 : s.size ≠ 0) :
    Calls Tryd.prog 26 #[.string s] w fun e w' => ∃ v, e = .returned (.tuple #[v, .bool (okPS s)]) ∧ OwnStk w' w.heap.size v (resPS s) ∧ Below w.heap.size w w' := by
  obtain ⟨i0, hi, hz0, hz1, hz2⟩ := info_parts info_strk
  have hne := not_empty h0
  by_cases h280 : s.size ≤ 280
  · have hnl : ¬ (280 : Int) < (s.size : Int) := by omega
    have HP := Lib.hid (pieces44_len s)
    have HPS : Hid (∀ p ∈ pieces s 44, p.size ≤ 280) := Lib.hid fun p hp => by
      have : p.size ≤ s.size := by
        rcases List.mem_append.1 hp with h | h
        · exact Tx.spl_size _ _ _ p h
        · rw [List.mem_singleton.1 h]; exact Tx.extract_le _ _ _
      omega
    have HNO := Lib.hid (okPS_no h0)
    have HYES := Lib.hid (okPS_yes h0 h280)
    have HSP := Lib.hid (Tx.split_any s 44 w (by omega))
    have h45 : ((44 : UInt8).toNat : Int) = 44 := rfl
    rw [h45] at HSP
    have HBA := Lib.hid fun W => stBare_any 20 W (by omega)
    obtain ⟨P, hP⟩ : ∃ P, P = pieces s 44 := ⟨_, rfl⟩
    rw [← hP] at HP HPS HNO HYES HSP
    obtain ⟨n, hn⟩ : ∃ n, n = P.length := ⟨_, rfl⟩
    have HN := Lib.hid hn
    have hnb : n ≤ 281 := by have := HP.out; omega
    clear h45 hP hn
    go_enter Tryd.func26, Tryd.ntmps26
    go_wp2_with (go_at_call 43; refine HSP.out.mono ?_; rintro e w1 ⟨v1, rfl, hown, hb⟩; unfold OwnStrs at hown; rw [← HN.out] at hown; obtain ⟨g, cg, rfl, hg1, hg2⟩ := Tx.own_some hown (by have := HP.out; have := HN.out; omega))
    have HO1 := Lib.hid hown
    have HB1 := Lib.hid hb
    have hbz := hb.size
    clear hown hb
    go_loopw [4, 17] (fun o i wr => ∃ k : Nat, k ≤ n ∧ i = .int .i64 k ∧ (P.take k).all (fun p => (stkS p).isSome) = true ∧ OwnStk wr w1.heap.size o ((P.take k).filterMap stkS) ∧ Below w1.heap.size w1 wr) (fun _ i _ => n - (intOf i).toNat)
    case atStart => exact ⟨0, Nat.zero_le _, rfl, rfl, OwnStk.nil _ _, Below.refl _ _⟩
    case round =>
      obtain ⟨k, hk, rfl, hall, hown, hb⟩ := hrel
      have HA := Lib.hid hall
      have HO := Lib.hid hown
      have HB := Lib.hid hb
      have hbs := hb.size
      obtain ⟨A6, c6, hv6⟩ := own_any hown
      subst hv6
      have hpl := HP.out
      have hnn := HN.out
      by_cases hlt : k < n
      · have hlt' : k < P.length := by omega
        have d1 : wr.cell? ⟨g, k, none⟩ = some (.string P[k]) := by
          rw [hb.cell (p := ⟨g, k, none⟩) hg2, HO1.out.cellAt k (by omega)]
          exact str_at hlt'
        have hsz := HPS.out _ (List.getElem_mem hlt')
        have HBAD := Lib.hid fun h => HNO.out (okG_bad hlt' (g := stkS) (s := s) h)
        have HRS := Lib.hid fun x h => read_succ hlt' (g := stkS) (x := x) h
        have HAS := Lib.hid fun x h => all_succG hlt' (g := stkS) (x := x) h HA.out
        have hk0 : (0 : Int) ≤ (k : Int) := by omega
        have hk1 : (k : Int) < (n : Int) := by omega
        have HSQ := Lib.hid (Tx.split_any P[k] 45 wr (by omega))
        rw [show ((45 : UInt8).toNat : Int) = 45 from rfl] at HSQ
        obtain ⟨t, ht⟩ : ∃ t, t = P[k] := ⟨_, rfl⟩
        rw [← ht] at d1 HBAD HRS HAS HSQ hsz
        obtain ⟨Q, hQ⟩ : ∃ Q, Q = (P.take k).filterMap stkS := ⟨_, rfl⟩
        have hql : Q.length ≤ 281 := by
          rw [hQ]
          have := List.length_filterMap_le stkS (P.take k)
          rw [List.length_take] at this
          omega
        rw [← hQ] at HO HRS ⊢
        have HPL := Lib.hid (Tx.pieces_len t)
        clear hall hown hb ht hQ hlt' hpl hnn
        by_cases h2 : (pieces t 45).length = 2
        · obtain ⟨a, b, hab⟩ := two_of h2
          have HST := Lib.hid (stkS_two hab)
          have hsa : a.size ≤ 280 := Nat.le_trans (Tx.pieces_size t a (by rw [hab]; exact List.mem_cons_self ..)) hsz
          have hsb : b.size ≤ 280 := Nat.le_trans (Tx.pieces_size t b (by rw [hab]; exact List.mem_cons_of_mem _ (List.mem_cons_self ..))) hsz
          rw [hab] at HSQ
          clear h2 hab HPL
          by_cases hb0 : b.size = 0
          · obtain rfl : b = ⟨#[]⟩ := empty_of hb0
            obtain ⟨e1, e2⟩ := HBAD.out (by rw [HST.out]; exact if_pos rfl)
            have E1 := Lib.hid e1
            have E2 := Lib.hid e2
            clear e1 e2 hb0
            go_wp2_with (go_at_call 43; refine HSQ.out.mono ?_; rintro e w2 ⟨v2, rfl, hown, hb⟩; obtain ⟨g2, cg2, rfl, hg3, hg4, d1', d2⟩ := two_own hown; have HB2 := Lib.hid hb; clear hown hb)
            go_ret2
            exact ⟨_, ret_vbS E1.out.symm, by rw [E2.out]; exact OwnStk.nil _ _, below_next HB1.out (below_next HB.out HB2.out)⟩
          · obtain ⟨m, hm⟩ : ∃ m, m = b.size - 1 := ⟨_, rfl⟩
            have hm1 : m < b.size := by omega
            have hmw : IntKind.i64.wrap ((b.size : Int) - 1) = (m : Int) := by rw [IntWalk.i64_in _ (by omega)]; omega
            have hmz : b.size - 1 = m := hm.symm
            have hbe := not_empty hb0
            rw [if_neg hb0, hmz] at HST
            have HRa := Lib.hid fun W => Tx.read_any a W (by unfold maxLen; omega)
            have HRb := Lib.hid fun W => Tx.read_any (b.extract 0 m) W (by unfold maxLen; rw [ByteArray.size_extract]; omega)
            have HX1 := Lib.hid (HRS.out _ HST.out)
            have HX2 := Lib.hid (HAS.out _ HST.out)
            obtain ⟨x, hx⟩ : ∃ x, x = readS a := ⟨_, rfl⟩
            obtain ⟨y, hy⟩ : ∃ y, y = readS (b.extract 0 m) := ⟨_, rfl⟩
            have HRa' : Hid (∀ W, Calls Tryd.prog 44 #[.string a] W fun e w' => e = .returned (.int .i64 x) ∧ Below W.heap.size W w') := Lib.hid fun W => by rw [hx]; exact HRa.out W
            have HRb' : Hid (∀ W, Calls Tryd.prog 44 #[.string (b.extract 0 m)] W fun e w' => e = .returned (.int .i64 y) ∧ Below W.heap.size W w') := Lib.hid fun W => by rw [hy]; exact HRb.out W
            rw [← hx, ← hy] at HX1
            have hm0 : (0 : Int) ≤ (m : Int) := by omega
            have hmi : (m : Int) ≤ (b.size : Int) := by omega
            clear hm hmz hb0 hx hy HRa HRb HBAD HRS HAS HNO HYES
            go_wp2_with (go_at_call 43; refine HSQ.out.mono ?_; rintro e w2 ⟨v2, rfl, hown, hb⟩; obtain ⟨g2, cg2, rfl, hg3, hg4, d2, d3⟩ := two_own hown; have HB2 := Lib.hid hb; have HKB : Hid (∀ W, Below w2.heap.size w2 W → W.cell? ⟨g2, 0, none⟩ = some (.string a) ∧ W.cell? ⟨g2, 1, none⟩ = some (.string b)) := Lib.hid (fun W h => ⟨(h.cell (p := ⟨g2, 0, none⟩) hg4).trans d2, (h.cell (p := ⟨g2, 1, none⟩) hg4).trans d3⟩); have HKC : Hid (∀ W W', Below w2.heap.size w2 W → W.grownBy W' (Value.slice A6 Q.length c6).ownBlock → W'.cell? ⟨g2, 0, none⟩ = some (.string a) ∧ W'.cell? ⟨g2, 1, none⟩ = some (.string b)) := Lib.hid (fun W W' h hg => (have hne : some g2 ≠ (Value.slice A6 Q.length c6).ownBlock := fun e => absurd (World.ownsRow.lt HO.out g2 e.symm).2 (by omega); have hl : g2 < W.heap.size := Nat.lt_of_lt_of_le hg4 h.size; ⟨(cell_grown hg hl hne).trans (HKB.out W h).1, (cell_grown hg hl hne).trans (HKB.out W h).2⟩)); clear hown hb)
            go_region_held3 (fun z => z.cell? ⟨g2, 0, none⟩ = some (.string a) ∧ z.cell? ⟨g2, 1, none⟩ = some (.string b))
              (first | exact HKB.out _ (Below.refl _ _).drew | exact HKB.out _ HB3.out | exact HKB.out _ HB4.out | exact HKB.out _ (HB4.out.alloc HB4.out.size _) | exact HKC.out _ _ (HB4.out.alloc HB4.out.size _) HGR.out | go_keep)
              (first
                | (go_at_call 44; with_reducible refine (HRb'.out _).mono ?_; rintro e w4 ⟨rfl, hbx⟩; have HB4 := Lib.hid (below_next HB3.out hbx); clear hbx)
                | (go_at_call 44; with_reducible refine (HRa'.out _).mono ?_; rintro e w3 ⟨rfl, hbx⟩; have HB3 := Lib.hid (below_next (Below.refl _ _).drew hbx); clear hbx)
                | (refine Tx.step_append_own (by rfl) (.tmp 37) (.tmp 54) _ (by rfl) w1.heap.size 43 i0 _ 3 32 Tryd.underlying26 hi hz0 hz1 hz2 (by rfl) (by decide) (.slice A6 Q.length c6) Q.length (strkCells Q) (by rfl) (World.ownsRow.alloc (own_below HO.out (below_next HB2.out HB4.out)) _) ⟨w4.heap.size, 0, none⟩ 1 1 [.int .i64 x, .int .i64 y, .string (b.extract m b.size)] (by rfl) (by rfl) (World.news_of_block (cs := #[.int .i64 x, .int .i64 y, .string (b.extract m b.size)]) (t := 43) (fr := (0, 0)) (heap_alloc_new _ _)) (by simp [Value.oneCell']) (by unfold maxLen; omega) (by omega) (by have h1 := HB.out.size; have h2 := HB2.out.size; have h3 := HB4.out.size; simp; omega) (Q.length + 1) rfl _ rfl ?_; intro A' c' w5 hown5 hgrow5; have HR : Hid (OwnStk w5 w1.heap.size (.slice A' (Q.length + 1) c') (Q ++ [⟨x, y, b.extract m b.size⟩])) := Lib.hid (OwnStk.snoc hown5); have HGR := Lib.hid hgrow5; have HB5 : Hid (Below w1.heap.size w1 w5) := Lib.hid (((below_next HB.out (below_next HB2.out HB4.out)).alloc (below_next HB.out (below_next HB2.out HB4.out)).size _).grown hgrow5 (by have h1 := HB.out.size; have h2 := HB2.out.size; have h3 := HB4.out.size; simp; omega) (fun k hk => (World.ownsRow.lt HO.out k hk).1)); clear hown5 hgrow5))
            go_wp2
            go_roundw
            case rel => exact ⟨k + 1, by omega, by go_num, HX2.out, by rw [HX1.out]; exact HR.out, HB5.out⟩
            case measure => simp [intOf]; omega
        · obtain ⟨e1, e2⟩ := HBAD.out (stkS_no h2)
          have E1 := Lib.hid e1
          have E2 := Lib.hid e2
          obtain ⟨m, hm⟩ : ∃ m, m = (pieces t 45).length := ⟨_, rfl⟩
          rw [← hm] at h2
          have HM := Lib.hid hm
          have hm2 : ((m : Int) == 2) = false := by rw [beq_eq_false_iff_ne]; omega
          have hm3 : ((m : Int) != 2) = true := by rw [bne_iff_ne]; omega
          clear e1 e2 hm
          go_wp2_with (go_at_call 43; refine HSQ.out.mono ?_; rintro e w2 ⟨v2, rfl, hown, hb⟩; unfold OwnStrs at hown; rw [← HM.out] at hown; obtain ⟨g2, cg2, rfl, hg3, hg4⟩ := Tx.own_some hown (by have := HPL.out; have := HM.out; omega); have HB2 := Lib.hid hb; clear hown hb)
          go_ret2
          exact ⟨_, ret_vbS E1.out.symm, by rw [E2.out]; exact OwnStk.nil _ _, below_next HB1.out (below_next HB.out HB2.out)⟩
      · obtain rfl : k = n := by omega
        have hL : P.take k = P := List.take_of_length_le (by omega)
        rw [hL] at HA HO ⊢
        have HBE := Lib.hid (below_next HB1.out hb)
        obtain ⟨Q, hQ⟩ : ∃ Q, Q = P.filterMap stkS := ⟨_, rfl⟩
        have HG := Lib.hid fun b hb c hc => okG_all (s := s) HA.out b hb c hc
        rw [← hQ] at HO HG HYES ⊢
        have hql : Q.length ≤ 281 := by
          rw [hQ]
          have := List.length_filterMap_le stkS P
          omega
        have HSH : Hid (Short Q) := Lib.hid (by rw [hQ]; exact short_read P)
        have HLI := Lib.hid fun W hW => stList_any (bareS 20) A6 c6 Q W (by rw [bare_size]; decide) (by unfold maxLen; omega) HSH.out hW
        rw [fence_bare, bare_size, Bool.true_and] at HLI
        have HSL := Lib.hid (StrkSl.of_own HO.out)
        clear hall hown hb hL hQ hpl hnn
        cases hok : okList 20 Q
        · rw [hok] at HLI
          obtain ⟨e1, e2⟩ := HNO.out (HG.out false hok _ rfl)
          have E1 := Lib.hid e1
          have E2 := Lib.hid e2
          clear hok e1 e2
          go_wp2_with (first
            | (go_at_call 19; refine (HBA.out _).mono ?_; rintro e w' ⟨rfl, rfl⟩)
            | (go_at_call 18; refine (HLI.out _ HSL.out).mono ?_; rintro e w2 ⟨rfl, hb2⟩; have HB2 := Lib.hid hb2; clear hb2))
          go_ret2
          exact ⟨_, ret_vbS E1.out.symm, by rw [E2.out]; exact OwnStk.nil _ _, below_next HBE.out HB2.out⟩
        · rw [hok] at HLI
          obtain ⟨h40, hat⟩ := okList_at hok
          have HTX := Lib.hid fun W hW => stText_any A6 c6 Q W h40 hat hW
          cases hc : (txB Q).toList == s.toList
          · obtain ⟨e1, e2⟩ := HNO.out (HG.out true hok false hc)
            have E1 := Lib.hid e1
            have E2 := Lib.hid e2
            obtain ⟨T, hT⟩ : ∃ T, T = txB Q := ⟨_, rfl⟩
            rw [← hT] at HTX hc
            clear hok e1 e2 hat hT
            go_wp2_with (first
              | (go_at_call 19; refine (HBA.out _).mono ?_; rintro e w' ⟨rfl, rfl⟩)
              | (go_at_call 18; refine (HLI.out _ HSL.out).mono ?_; rintro e w2 ⟨rfl, hb2⟩; have HB2 := Lib.hid hb2; clear hb2)
              | (go_at_call 20; refine (HTX.out _ (HSL.out.below HB2.out)).mono ?_; rintro e w3 ⟨rfl, hb3⟩; have HB3 := Lib.hid (below_next HB2.out hb3); clear hb3))
            go_ret2
            exact ⟨_, ret_vbS E1.out.symm, by rw [E2.out]; exact OwnStk.nil _ _, below_next HBE.out HB3.out⟩
          · obtain ⟨e1, e2⟩ := HYES.out (HG.out true hok true hc)
            have E1 := Lib.hid e1
            have E2 := Lib.hid e2
            obtain ⟨T, hT⟩ : ∃ T, T = txB Q := ⟨_, rfl⟩
            rw [← hT] at HTX hc
            clear hok e1 e2 hat hT
            go_wp2_with (first
              | (go_at_call 19; refine (HBA.out _).mono ?_; rintro e w' ⟨rfl, rfl⟩)
              | (go_at_call 18; refine (HLI.out _ HSL.out).mono ?_; rintro e w2 ⟨rfl, hb2⟩; have HB2 := Lib.hid hb2; clear hb2)
              | (go_at_call 20; refine (HTX.out _ (HSL.out.below HB2.out)).mono ?_; rintro e w3 ⟨rfl, hb3⟩; have HB3 := Lib.hid (below_next HB2.out hb3); clear hb3))
            go_ret2
            exact ⟨_, ret_vbS E1.out.symm, by rw [E2.out]; exact OwnStk.mono (own_below HO.out HB3.out) hbz, below_next HBE.out HB3.out⟩
  · have e : okPS s = false := by unfold okPS; rw [decide_eq_false h280, decide_eq_false h0]; rfl
    have e2 : resPS s = [] := by unfold resPS; rw [if_neg h0, e]; rfl
    rw [e, e2]
    have hnl : (280 : Int) < (s.size : Int) := by omega
    clear e e2
    go_enter Tryd.func26, Tryd.ntmps26
    go_wp2
    go_ret2
    exact ⟨_, rfl, OwnStk.nil _ _, Below.refl _ _⟩

theorem specParse_any (s : ByteArray) (w : World) (hs : s.size ≤ maxLen) :
    Calls Tryd.prog 11 #[.string s] w fun e w' => ∃ v, e = .returned (.tuple #[v, .bool (okPS s)]) ∧ OwnStk w' w.heap.size v (resPS s) ∧ Below w.heap.size w w' := by
  have HP : Hid (Calls Tryd.prog 26 #[.string s] w fun e w' => ∃ v, e = .returned (.tuple #[v, .bool (okPS s)]) ∧ OwnStk w' w.heap.size v (resPS s) ∧ Below w.heap.size w w') := Lib.hid (by
    by_cases h0 : s.size = 0
    · obtain rfl : s = ⟨#[]⟩ := empty_of h0
      exact stParse_none w
    · exact stParse_any s w hs h0)
  go_enter Tryd.func11, Tryd.ntmps11
  go_wp2_with fail
  refine HP.out.mono ?_
  rintro e w1 ⟨v, rfl, hown, hb⟩
  go_wp2
  go_ret2
  exact ⟨_, rfl, hown, hb⟩
end Go.Proofs.YtnijedmnjmeciaaDoor

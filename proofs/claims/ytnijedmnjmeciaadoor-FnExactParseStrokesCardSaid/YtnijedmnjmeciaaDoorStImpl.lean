/- ParseStrokes of the program. No condition but the text's length; the library's variables read as they are laid. -/
import Derived.Test.YtnijedmnjmeciaaDoorStPiece
import Derived.Test.YtnijedmnjmeciaaDoorStSpec
namespace Go.Proofs.YtnijedmnjmeciaaDoor
open Go.RowKit

theorem heap_alloc2 (w : World) (a b : Obj) : ((w.alloc a).alloc b).heap[w.heap.size + 1]? = some b := by
  have := heap_alloc_new (w.alloc a) b
  rwa [show (w.alloc a).heap.size = w.heap.size + 1 by simp] at this
theorem splitB_size (sep : ByteArray) (save : Nat) : ∀ (k : Nat) (s : ByteArray), ∀ p ∈ Lib.splitB sep save k s, p.size ≤ s.size
  | 0, s, p, hp => by rw [Lib.splitB_zero, List.mem_singleton] at hp; rw [hp]; exact Nat.le_refl _
  | k + 1, s, p, hp => by
    unfold Lib.splitB at hp
    split at hp
    · rw [List.mem_singleton] at hp; rw [hp]; exact Nat.le_refl _
    · rcases List.mem_cons.1 hp with h | h
      · rw [h]; exact Tx.extract_le _ _ _
      · exact Nat.le_trans (splitB_size sep save k _ p h) (Tx.extract_le _ _ _)
theorem splitB_pos (sep : ByteArray) (save k : Nat) (s : ByteArray) : 1 ≤ (Lib.splitB sep save k s).length := by
  cases k with
  | zero => rw [Lib.splitB_zero]; exact Nat.le_refl _
  | succ k => unfold Lib.splitB; split <;> simp
theorem wI_len (s : ByteArray) : 1 ≤ (wI s).length ∧ (wI s).length ≤ 42 := by
  have := Lib.splitB_length_le ⟨#[44]⟩ 0 (min 41 (s.size + 1) - 1) s
  refine ⟨?_, by unfold wI; omega⟩
  unfold wI
  exact splitB_pos _ _ _ _
theorem splitN_any (s : ByteArray) (w : World) {B : Nat} (he : Env B w) (hs : s.size ≤ 1048576) :
    Calls Tryd.prog 27 #[.string s, .string ⟨#[44]⟩, .int .i64 41] w fun e w' => ∃ c, e = .returned (.slice (some ⟨w.heap.size, 0, none⟩) (wI s).length c) ∧ (wI s).length ≤ c ∧ Below w.heap.size w w' ∧ w.heap.size < w'.heap.size ∧
      ∀ j (h : j < (wI s).length), w'.cell? ⟨w.heap.size, j, none⟩ = some (.string (wI s)[j]) := by
  obtain ⟨⟨m, l1, c1⟩, -, -⟩ := he
  refine (Tryd.strings_SplitN s ⟨#[44]⟩ 41 m w (by omega) c1 (by decide) (by omega) (by omega)).mono ?_
  rintro e w' ⟨rfl, rfl⟩
  have hl := Lib.splitB_length_le ⟨#[44]⟩ 0 (min 41 (s.size + 1) - 1) s
  refine ⟨min 41 (s.size + 1), rfl, by unfold wI; omega, below_new _ _, by show w.heap.size < (w.heap.push _).size; rw [Array.size_push]; omega, ?_⟩
  intro j hj
  rw [World.cell?_alloc_mark]
  unfold Lib.cellsOf
  rw [List.getElem?_toArray, List.getElem?_append_left (by rw [List.length_map]; exact hj), List.getElem?_map]
  have hj' : j < (Lib.splitB ⟨#[44]⟩ 0 (min 41 (s.size + 1) - 1) s).length := hj
  rw [List.getElem?_eq_getElem hj']
  rfl
theorem okPI_no {s : ByteArray} (h0 : s.size ≠ 0) (h : okG (wI s) stkI s = false) : okPI s = false ∧ resPI s = [] := by
  have e : okPI s = false := by unfold okPI; rw [decide_eq_false h0, h]; rfl
  exact ⟨e, by unfold resPI; rw [if_neg h0, e]; rfl⟩
theorem okPI_yes {s : ByteArray} (h0 : s.size ≠ 0) (h : okG (wI s) stkI s = true) : okPI s = true ∧ resPI s = (wI s).filterMap stkI := by
  have e : okPI s = true := by unfold okPI; rw [h]; simp
  exact ⟨e, by unfold resPI; rw [if_neg h0, if_pos e]⟩
theorem stkI_c {t : ByteArray} {x : Strk} (h : stkI t = some x) : x.c.size ≤ 1 := by
  unfold stkI at h
  split at h
  · cases h
  · split at h
    · rw [← Option.some.inj h]
      show (ByteArray.extract _ _ _).size ≤ 1
      rw [ByteArray.size_extract]; omega
    · cases h
theorem short_readI (P : List ByteArray) : Short (P.filterMap stkI) := fun k hk => by
  obtain ⟨p, -, hp⟩ := List.mem_filterMap.1 (List.getElem_mem hk)
  exact Nat.le_trans (stkI_c hp) (by decide)

theorem implParse_none (w : World) :
    Calls Tryd.prog 12 #[.string ⟨#[]⟩] w fun e w' => ∃ v, e = .returned (.tuple #[v, .bool (okPI ⟨#[]⟩)]) ∧ OwnStk w' w.heap.size v (resPI ⟨#[]⟩) ∧ Below w.heap.size w w' := by
  have e1 : okPI ⟨#[]⟩ = true := rfl
  have e2 : resPI ⟨#[]⟩ = [] := rfl
  rw [e1, e2]
  go_enter Tryd.func12, Tryd.ntmps12
  go_wp2
  go_ret2
  exact ⟨_, rfl, OwnStk.nil _ _, Below.refl _ _⟩

set_option maxRecDepth 100000 in
set_option maxHeartbeats 8000000 in
theorem implParse_more (s : ByteArray) (w : World) (hs : s.size ≤ 1048576) (he : Env w.heap.size w) (h0 : s.size ≠ 0) :
    Calls Tryd.prog 12 #[.string s] w fun e w' => ∃ v, e = .returned (.tuple #[v, .bool (okPI s)]) ∧ OwnStk w' w.heap.size v (resPI s) ∧ Below w.heap.size w w' := by
  obtain ⟨i0, hi, hz0, hz1, hz2⟩ := info_parts info_strk
  have hne := not_empty h0
  have HP := Lib.hid (wI_len s)
  have HPS : Hid (∀ p ∈ wI s, p.size ≤ 1048576) := Lib.hid fun p hp => Nat.le_trans (splitB_size _ _ _ _ p hp) hs
  have HNO := Lib.hid (okPI_no h0)
  have HYES := Lib.hid (okPI_yes h0)
  have HSP := Lib.hid (splitN_any s w he hs)
  obtain ⟨P, hP⟩ : ∃ P, P = wI s := ⟨_, rfl⟩
  rw [← hP] at HP HPS HNO HYES HSP
  obtain ⟨n, hn⟩ : ∃ n, n = P.length := ⟨_, rfl⟩
  have HN := Lib.hid hn
  have HSP2 : Hid (Calls Tryd.prog 27 #[.string s, .string ⟨#[44]⟩, .int .i64 41] w fun e w' => ∃ c, e = .returned (.slice (some ⟨w.heap.size, 0, none⟩) n c) ∧ n ≤ c ∧ Below w.heap.size w w' ∧ w.heap.size < w'.heap.size ∧
      ∀ j (h : j < P.length), w'.cell? ⟨w.heap.size, j, none⟩ = some (.string P[j])) := Lib.hid (by rw [hn]; exact HSP.out)
  have hnb : n ≤ 42 := by have := HP.out; omega
  have HE := Lib.hid he
  clear hP hn HSP he
  go_enter Tryd.func12, Tryd.ntmps12
  go_wp2_with (go_at_call 27; refine HSP2.out.mono ?_; rintro e w1 ⟨c1, rfl, hc1, hb, hl1, hcells⟩; have HB1 := Lib.hid hb; have HC1 := Lib.hid hcells; have hbz := hb.size; clear hb hcells)
  go_loopw [4, 16] (fun o i wr => ∃ k : Nat, k ≤ n ∧ i = .int .i64 k ∧ (P.take k).all (fun p => (stkI p).isSome) = true ∧ OwnStk wr w1.heap.size o ((P.take k).filterMap stkI) ∧ Below w1.heap.size w1 wr) (fun _ i _ => n - (intOf i).toNat)
  case atStart => exact ⟨0, Nat.zero_le _, rfl, rfl, OwnStk.nil _ _, Below.refl _ _⟩
  case round =>
    obtain ⟨k, hk, rfl, hall, hown, hb⟩ := hrel
    have HA := Lib.hid hall
    have HO := Lib.hid hown
    have HB := Lib.hid hb
    have hbs := hb.size
    obtain ⟨A6, c6, hv6⟩ := own_any hown
    subst hv6
    have hnn := HN.out
    have HBE := Lib.hid (below_next HB1.out hb)
    by_cases hlt : k < n
    · have hlt' : k < P.length := by omega
      have d1 : wr.cell? ⟨w.heap.size, k, none⟩ = some (.string P[k]) := by
        rw [hb.cell (p := ⟨w.heap.size, k, none⟩) hl1]
        exact HC1.out k hlt'
      have hsz := HPS.out _ (List.getElem_mem hlt')
      have HBAD := Lib.hid fun h => HNO.out (okG_bad hlt' (g := stkI) (s := s) h)
      have HRS := Lib.hid fun x h => read_succ hlt' (g := stkI) (x := x) h
      have HAS := Lib.hid fun x h => all_succG hlt' (g := stkI) (x := x) h HA.out
      have hk0 : (0 : Int) ≤ (k : Int) := by omega
      have hk1 : (k : Int) < (n : Int) := by omega
      have HPA := Lib.hid (parseStroke_any P[k] wr hsz (env_at HE.out HBE.out))
      obtain ⟨t, ht⟩ : ∃ t, t = P[k] := ⟨_, rfl⟩
      rw [← ht] at d1 HBAD HRS HAS HPA hsz
      obtain ⟨Q, hQ⟩ : ∃ Q, Q = (P.take k).filterMap stkI := ⟨_, rfl⟩
      have hql : Q.length ≤ 42 := by
        rw [hQ]
        have := List.length_filterMap_le stkI (P.take k)
        rw [List.length_take] at this
        omega
      rw [← hQ] at HO HRS ⊢
      clear hall hown hb ht hQ hlt' hnn
      cases hst : stkI t with
      | none =>
        obtain ⟨e1, e2⟩ := HBAD.out hst
        have E1 := Lib.hid e1
        have E2 := Lib.hid e2
        rw [hst] at HPA
        have HPA2 : Hid (Calls Tryd.prog 28 #[.string t] wr fun e w' => e = .returned (.tuple #[.agg #[.int .i64 0, .int .i64 0, .string ⟨#[]⟩], .bool false]) ∧ Below wr.heap.size wr w') := Lib.hid HPA.out
        clear e1 e2 hst HPA HRS HAS
        go_wp2_with (go_at_call 28; refine HPA2.out.mono ?_; rintro e w2 ⟨rfl, hb2⟩; have HB2 := Lib.hid hb2; have hbs2 := hb2.size; clear hb2)
        go_ret2
        exact ⟨_, ret_vbS E1.out.symm, by rw [E2.out]; exact OwnStk.nil _ _, below_next HBE.out (HB2.out.alloc hbs2 _)⟩
      | some x =>
        have HX1 := Lib.hid (HRS.out _ hst)
        have HX2 := Lib.hid (HAS.out _ hst)
        rw [hst] at HPA
        obtain ⟨f, t', c⟩ := x
        have HPA2 : Hid (Calls Tryd.prog 28 #[.string t] wr fun e w' => e = .returned (.tuple #[.agg #[.int .i64 f, .int .i64 t', .string c], .bool true]) ∧ Below wr.heap.size wr w') := Lib.hid HPA.out
        clear hst HPA HRS HAS HBAD
        go_wp2_with (first
          | (go_at_call 28; refine HPA2.out.mono ?_; rintro e w2 ⟨rfl, hb2⟩; have HB2 := Lib.hid hb2; have hbs2 := hb2.size; have HO2 := Lib.hid (own_below HO.out hb2); have HW2 := Lib.hid (below_next HB.out hb2); clear hb2)
          | (at_builtin; refine wpList_append_own _ rfl (.tmp 27) (.tmp 29) _ rfl w1.heap.size 43 i0 _ 3 32 Tryd.underlying26 hi hz0 hz1 hz2 rfl (by decide) _ Q.length (strkCells Q) rfl (World.ownsRow.alloc (World.ownsRow.alloc HO2.out _) _) ⟨w2.heap.size + 1, 0, none⟩ 1 1 [.int .i64 f, .int .i64 t', .string c] rfl rfl (World.news_of_block (cs := #[.int .i64 f, .int .i64 t', .string c]) (t := 43) (fr := (0, 0)) (heap_alloc2 w2 _ _)) (by simp [Value.oneCell']) (by unfold maxLen; omega) (by omega) (by simp; omega) ?_; intro v' w3 hown' hgrow _; have HR : Hid (OwnStk w3 w1.heap.size v' (Q ++ [⟨f, t', c⟩])) := Lib.hid (OwnStk.snoc hown'); have HB3 := Lib.hid (((HW2.out.alloc HW2.out.size _).alloc (by simp; omega) _).grown hgrow (by simp; omega) fun k hk => (World.ownsRow.lt HO2.out k hk).1); clear hown' hgrow))
        go_roundw
        case rel => exact ⟨k + 1, by omega, by go_num, HX2.out, by rw [HX1.out]; exact HR.out, HB3.out⟩
        case measure => simp [intOf]; omega
    · obtain rfl : k = n := by omega
      have hL : P.take k = P := List.take_of_length_le (by omega)
      rw [hL] at HA HO ⊢
      obtain ⟨Q, hQ⟩ : ∃ Q, Q = P.filterMap stkI := ⟨_, rfl⟩
      have HG := Lib.hid fun b hb c hc => okG_all (s := s) HA.out b hb c hc
      have HSH : Hid (Short Q) := Lib.hid (by rw [hQ]; exact short_readI P)
      rw [← hQ] at HO HG HYES ⊢
      have hql : Q.length ≤ 42 := by
        rw [hQ]
        have := List.length_filterMap_le stkI P
        omega
      have HTX := Lib.hid (implSText_any A6 c6 Q wr (by unfold maxLen; omega) HSH.out (StrkSl.of_own HO.out))
      clear hall hown hb hL hQ hnn
      cases hok : okList 20 Q
      · rw [hok, if_neg (by decide)] at HTX
        obtain ⟨e1, e2⟩ := HNO.out (HG.out false hok _ rfl)
        have E1 := Lib.hid e1
        have E2 := Lib.hid e2
        clear hok e1 e2
        go_wp2_with (go_at_call 9; refine HTX.out.mono ?_; rintro e w2 ⟨rfl, hb2⟩; have HB2 := Lib.hid hb2; clear hb2)
        go_ret2
        exact ⟨_, ret_vbS E1.out.symm, by rw [E2.out]; exact OwnStk.nil _ _, below_next HBE.out HB2.out⟩
      · rw [hok, if_pos rfl] at HTX
        cases hc : (txB Q).toList == s.toList
        · obtain ⟨e1, e2⟩ := HNO.out (HG.out true hok false hc)
          have E1 := Lib.hid e1
          have E2 := Lib.hid e2
          obtain ⟨T, hT⟩ : ∃ T, T = txB Q := ⟨_, rfl⟩
          rw [← hT] at HTX hc
          clear hok e1 e2 hT
          go_wp2_with (go_at_call 9; refine HTX.out.mono ?_; rintro e w2 ⟨rfl, hb2⟩; have HB2 := Lib.hid hb2; clear hb2)
          go_ret2
          exact ⟨_, ret_vbS E1.out.symm, by rw [E2.out]; exact OwnStk.nil _ _, below_next HBE.out HB2.out⟩
        · obtain ⟨e1, e2⟩ := HYES.out (HG.out true hok true hc)
          have E1 := Lib.hid e1
          have E2 := Lib.hid e2
          obtain ⟨T, hT⟩ : ∃ T, T = txB Q := ⟨_, rfl⟩
          rw [← hT] at HTX hc
          clear hok e1 e2 hT
          go_wp2_with (go_at_call 9; refine HTX.out.mono ?_; rintro e w2 ⟨rfl, hb2⟩; have HB2 := Lib.hid hb2; clear hb2)
          go_ret2
          exact ⟨_, ret_vbS E1.out.symm, by rw [E2.out]; exact OwnStk.mono (own_below HO.out HB2.out) hbz, below_next HBE.out HB2.out⟩

theorem implParseStrokes_any (s : ByteArray) (w : World) (hs : s.size ≤ 1048576) (he : Env w.heap.size w) :
    Calls Tryd.prog 12 #[.string s] w fun e w' => ∃ v, e = .returned (.tuple #[v, .bool (okPS s)]) ∧ OwnStk w' w.heap.size v (resPS s) ∧ Below w.heap.size w w' := by
  obtain ⟨e1, e2⟩ := parse_same s
  rw [← e1, ← e2]
  by_cases h0 : s.size = 0
  · obtain rfl : s = ⟨#[]⟩ := empty_of h0
    exact implParse_none w
  · exact implParse_more s w hs he h0
end Go.Proofs.YtnijedmnjmeciaaDoor

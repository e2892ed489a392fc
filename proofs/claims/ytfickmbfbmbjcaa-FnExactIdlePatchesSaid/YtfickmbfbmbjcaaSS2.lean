/- The law's own helpers on lists of lists: 'laws.eqIntSS', 'markIntSS', 'heldIntSS'. No condition but the lists' lengths. -/
import Derived.Test.YtfickmbfbmbjcaaSS
namespace Go.Proofs.Ytfickmbfbmbjcaa
open Go.RowKit

def szL : List (List Int) → Nat
  | [] => 0
  | L :: R => L.length + szL R
theorem szL_append : ∀ (P R : List (List Int)), szL (P ++ R) = szL P + szL R
  | [], R => by rw [List.nil_append]; show _ = 0 + _; omega
  | L :: P, R => by rw [List.cons_append]; show L.length + szL (P ++ R) = L.length + szL P + szL R; rw [szL_append P R]; omega
def marksZ : Nat → List (List Int) → List (List Value)
  | _, [] => []
  | k, L :: R => marksI k L.length :: marksZ (k + L.length) R
theorem marksZ_snoc : ∀ (k : Nat) (P : List (List Int)) (L : List Int), marksZ k (P ++ [L]) = marksZ k P ++ [marksI (k + szL P) L.length]
  | k, [], L => rfl
  | k, M :: P, L => by
    rw [List.cons_append]
    show marksI k M.length :: marksZ (k + M.length) (P ++ [L]) = marksI k M.length :: (marksZ (k + M.length) P ++ [marksI (k + (M.length + szL P)) L.length])
    rw [marksZ_snoc (k + M.length) P L, Nat.add_assoc]
theorem marksZ_len : ∀ (k : Nat) (P : List (List Int)), (marksZ k P).length = P.length
  | _, [] => rfl
  | k, L :: P => by show (marksZ _ P).length + 1 = P.length + 1; rw [marksZ_len]
theorem marksZ_at (k : Nat) (P : List (List Int)) (L : List Int) (R : List (List Int)) : (marksZ k (P ++ L :: R))[P.length]? = some (marksI (k + szL P) L.length) := by
  induction P generalizing k with
  | nil => rfl
  | cons M P ih =>
    rw [List.cons_append]
    show (marksI k M.length :: marksZ (k + M.length) (P ++ L :: R))[P.length + 1]? = _
    rw [List.getElem?_cons_succ, ih, Nat.add_assoc]; rfl
theorem marksI_len (k n : Nat) : (marksI k n).length = n := by unfold marksI; simp
theorem intsV_len (L : List Int) : (intsV L).length = L.length := by unfold intsV; simp

/-- what the law's walk wants of a list of lists -/
def SSok (LL : List (List Int)) : Prop := LL.length ≤ 1048576 ∧ (∀ L ∈ LL, L.length ≤ 1048576) ∧ szL LL ≤ 4194304
set_option maxHeartbeats 400000 in
theorem eqInts_drew (A1 A2 : Option Addr) (c1 c2 : Nat) (zs : List Int) (w : World) (hm : zs.length ≤ 1048576) (h1 : IntSl w A1 zs) (h2 : IntSl w A2 zs) :
    Calls Try.prog 27 #[.slice A1 zs.length c1, .slice A2 zs.length c2] w fun e w' => e = .returned (.bool true) ∧ ∃ d, w' = w.drewN d := by
  rcases Nat.eq_zero_or_pos zs.length with h0 | h0
  · rw [h0]
    clear h1 h2 h0 hm
    go_enter Try.func27, Try.ntmps27
    go_wp2
    refine wp_loop_rounds 1 ?_
    rw [rounds_succ]
    go_wp2
    go_ret
    exact ⟨rfl, 0, rfl⟩
  · obtain ⟨g1, o1, rfl, hg1, at1⟩ := h1.some h0
    obtain ⟨g2, o2, rfl, hg2, at2⟩ := h2.some h0
    have H1 : Hid (∀ k (hk : k < zs.length), w.cell? ⟨g1, o1 + k, none⟩ = some (.int .i64 zs[k])) := Lib.hid at1
    have H2 : Hid (∀ k (hk : k < zs.length), w.cell? ⟨g2, o2 + k, none⟩ = some (.int .i64 zs[k])) := Lib.hid at2
    clear h1 h2 at1 at2
    go_enter Try.func27, Try.ntmps27
    go_wp2
    go_loopw [5] (fun i wr => ∃ k d : Nat, k ≤ zs.length ∧ i = .int .i64 k ∧ wr = w.drewN d) (fun i _ => zs.length - (intOf i).toNat)
    case atStart => exact ⟨0, 0, Nat.zero_le _, rfl, rfl⟩
    case round =>
      obtain ⟨k, d, hk, rfl, rfl⟩ := hrel
      by_cases hlt : k < zs.length
      · have e1 := H1.out k hlt
        have e2 := H2.out k hlt
        have hk0 : (0 : Int) ≤ (k : Int) := by omega
        have hk1 : (k : Int) < (zs.length : Int) := by omega
        go_wp2
        go_quiet (fail)
        go_wp2
        go_roundw
        case rel => exact ⟨k + 1, _, by omega, by go_num, rfl⟩
        case measure => simp [intOf]; omega
      · go_wp2
        go_ret
        exact ⟨rfl, _, rfl⟩

theorem drewN_belowR (w : World) (B d : Nat) : Below B w (w.drewN d) := below_drewN (Below.refl _ _) d
set_option maxHeartbeats 1000000 in
theorem eqSS_any (b1 t1 b2 t2 : Nat) (V1 V2 : Value) (LL : List (List Int)) (w : World) (hn : LL.length ≤ 1048576) (hl : ∀ L ∈ LL, L.length ≤ 1048576) (h1 : OwnSS w b1 t1 V1 LL) (h2 : OwnSS w b2 t2 V2 LL) :
    Calls Try.prog 37 #[V1, V2] w fun e w' => e = .returned (.bool true) ∧ Below w.heap.size w w' := by
  obtain ⟨vs1, r1⟩ := h1
  obtain ⟨vs2, r2⟩ := h2
  have l1 : vs1.length = LL.length := by rw [r1.len, List.length_map]
  have l2 : vs2.length = LL.length := by rw [r2.len, List.length_map]
  have O1 := r1.out
  have O2 := r2.out
  rw [l1] at O1
  rw [l2] at O2
  rcases Nat.eq_zero_or_pos LL.length with h0 | h0
  · obtain ⟨A1, c1, rfl⟩ := own_any O1
    obtain ⟨A2, c2, rfl⟩ := own_any O2
    rw [h0]
    clear r1 r2 O1 O2 l1 l2 h0 hn hl
    go_enter Try.func37, Try.ntmps37
    go_wp2
    refine wp_loop_rounds 1 ?_
    rw [rounds_succ]
    go_wp2
    go_ret
    exact ⟨rfl, Below.refl _ _⟩
  · obtain ⟨g1, c1, rfl, -, hg1⟩ := own_some O1 h0
    obtain ⟨g2, c2, rfl, -, hg2⟩ := own_some O2 h0
    have HK : Hid (∀ k (hk : k < LL.length), ∃ A1 d1 A2 d2, w.cell? ⟨g1, k, none⟩ = some (.slice A1 LL[k].length d1) ∧ w.cell? ⟨g2, k, none⟩ = some (.slice A2 LL[k].length d2) ∧
        ∀ W, Below w.heap.size w W → Calls Try.prog 27 #[.slice A1 LL[k].length d1, .slice A2 LL[k].length d2] W fun e w' => e = .returned (.bool true) ∧ ∃ d, w' = W.drewN d) := Lib.hid fun k hk => by
      have hz : (LL.map intsV)[k]? = some (intsV LL[k]) := by rw [List.getElem?_map, List.getElem?_eq_getElem hk]; rfl
      obtain ⟨A1, d1, e1, o1⟩ := OwnSS.at r1 hz
      obtain ⟨A2, d2, e2, o2⟩ := OwnSS.at r2 hz
      rw [intsV_len] at e1 e2 o1 o2
      refine ⟨A1, d1, A2, d2, by rw [World.ownsRow.cellAt O1 k (by omega), e1], by rw [World.ownsRow.cellAt O2 k (by omega), e2], fun W hW => ?_⟩
      exact eqInts_drew A1 A2 d1 d2 LL[k] W (hl _ (List.getElem_mem hk)) ((IntSl.of_own o1).below hW) ((IntSl.of_own o2).below hW)
    clear r1 r2 O1 O2 l1 l2 hl
    go_enter Try.func37, Try.ntmps37
    go_wp2
    go_loopw [5] (fun i wr => ∃ k d : Nat, k ≤ LL.length ∧ i = .int .i64 k ∧ wr = w.drewN d) (fun i _ => LL.length - (intOf i).toNat)
    case atStart => exact ⟨0, 0, Nat.zero_le _, rfl, rfl⟩
    case round =>
      obtain ⟨k, d, hk, rfl, rfl⟩ := hrel
      by_cases hlt : k < LL.length
      · obtain ⟨A1, d1, A2, d2, e1, e2, hc⟩ := HK.out k hlt
        have HC : Hid (∀ m, Calls Try.prog 27 #[.slice A1 LL[k].length d1, .slice A2 LL[k].length d2] (w.drewN (d + m)) fun e w' => e = .returned (.bool true) ∧ ∃ q, w' = w.drewN (d + q)) := Lib.hid fun m =>
          (hc _ (drewN_belowR w _ _)).mono fun _ _ h => ⟨h.1, h.2.elim fun q hq => ⟨m + q, by rw [hq, World.drewN_drewN, Nat.add_assoc]⟩⟩
        clear hc
        have hk0 : (0 : Int) ≤ (k : Int) := by omega
        have hk1 : (k : Int) < (LL.length : Int) := by omega
        go_wp2
        go_quiet (first | (go_at_call 27; exact HC.out _))
        go_wp2
        go_roundw
        case rel => exact ⟨k + 1, _, by omega, by go_num, rfl⟩
        case measure => simp [intOf]; omega
      · go_wp2
        go_ret
        exact ⟨rfl, below_drewN (Below.refl _ _) _⟩

/-- so far marked -/
def MarkedSS (w : World) (base top : Nat) (V : Value) (vs : List Value) (LL : List (List Int)) (k j x : Nat) (wr : World) : Prop :=
  ∃ P R, LL = P ++ R ∧ P.length = j ∧ x = k + szL P ∧ RowsTo wr base top V vs (marksZ k P ++ R.map intsV) ∧ Below base w wr
set_option maxHeartbeats 1000000 in
theorem markSS_any (base top : Nat) (V : Value) (LL : List (List Int)) (w : World) (k : Nat) (hk : k + szL LL ≤ 8388608) (hn : LL.length ≤ 1048576) (hl : ∀ L ∈ LL, L.length ≤ 1048576) (vs : List Value) (hb : base ≤ w.heap.size) (h : RowsTo w base top V vs (LL.map intsV)) :
    Calls Try.prog 38 #[V, .int .i64 k] w fun e w' => e = .returned (.int .i64 ((k + szL LL : Nat) : Int)) ∧ RowsTo w' base top V vs (marksZ k LL) ∧ Below base w w' := by
  have l1 : vs.length = LL.length := by rw [h.len, List.length_map]
  have O1 := h.out
  rw [l1] at O1
  rcases Nat.eq_zero_or_pos LL.length with h0 | h0
  · obtain rfl : LL = [] := List.eq_nil_of_length_eq_zero h0
    have HR := Lib.hid h
    obtain ⟨A1, c1, rfl⟩ := own_any O1
    clear h O1 l1 h0 hn hl hk hb
    go_enter Try.func38, Try.ntmps38
    go_wp2
    refine wp_loop_rounds 1 ?_
    rw [rounds_succ]
    go_wp2
    go_ret
    exact ⟨rfl, HR.out, Below.refl _ _⟩
  · obtain ⟨g1, c1, rfl, -, hg1⟩ := own_some O1 h0
    have HS : Hid (MarkedSS w base top (.slice (some ⟨g1, 0, none⟩) LL.length c1) vs LL k 0 k w) := Lib.hid ⟨[], LL, rfl, rfl, rfl, h, Below.refl _ _⟩
    have HL := Lib.hid hl
    have HB := Lib.hid hb
    have HV := Lib.hid l1
    clear h O1 l1 hl hb
    go_enter Try.func38, Try.ntmps38
    go_wp2
    go_loopw [1, 5] (fun m i wr => ∃ j x : Nat, j ≤ LL.length ∧ x ≤ 8388608 ∧ i = .int .i64 j ∧ m = .int .i64 x ∧ MarkedSS w base top (.slice (some ⟨g1, 0, none⟩) LL.length c1) vs LL k j x wr) (fun _ i _ => LL.length - (intOf i).toNat)
    case atStart => exact ⟨0, k, Nat.zero_le _, by omega, rfl, rfl, HS.out⟩
    case round =>
      obtain ⟨j, x, hj, hx, rfl, rfl, P, R, hPR, hPl, hxP, hrows, hbel⟩ := hrel
      have hlen : LL.length = P.length + R.length := by rw [hPR, List.length_append]
      have hsz : szL LL = szL P + szL R := by rw [hPR, szL_append]
      by_cases hlt : j < LL.length
      · obtain ⟨L, R', rfl⟩ : ∃ L R', R = L :: R' := by
          cases R with
          | nil => rw [List.length_nil] at hlen; omega
          | cons L R' => exact ⟨L, R', rfl⟩
        have hszR : szL (L :: R') = L.length + szL R' := rfl
        have hLm : L.length ≤ 1048576 := HL.out L (by rw [hPR]; simp)
        have hml : (marksZ k P).length = P.length := marksZ_len k P
        have hz : (marksZ k P ++ (L :: R').map intsV)[j]? = some (intsV L) := by
          rw [List.getElem?_append_right (by omega), hml, hPl, Nat.sub_self]; rfl
        obtain ⟨A, c, e1, o1⟩ := OwnSS.at hrows hz
        rw [intsV_len] at e1 o1
        have HX : Hid (x + L.length = k + szL (P ++ [L])) := Lib.hid (by rw [szL_append, hxP]; show _ = k + (szL P + (L.length + 0)); omega)
        have hxl : x + L.length ≤ 8388608 := by omega
        have hcell : wr.cell? ⟨g1, j, none⟩ = some (.slice A L.length c) := by
          have h3 := hrows.out
          rw [HV.out] at h3
          rw [World.ownsRow.cellAt h3 j (by omega), e1]
        have HC := Lib.hid (markInts_any 3 base L.length (.slice A L.length c) L wr x hx hLm rfl o1)
        have HN : Hid (∀ w2, w2.ownsRow base 3 1 (.slice A L.length c) L.length (marksI x L.length) → wr.grownBy w2 (Value.slice A L.length c).ownBlock → MarkedSS w base top (.slice (some ⟨g1, 0, none⟩) LL.length c1) vs LL k (j + 1) (x + L.length) w2) := Lib.hid fun w2 h5 h6 => by
          refine ⟨P ++ [L], R', by rw [hPR]; simp, by rw [List.length_append]; show P.length + 1 = _; omega, HX.out, ?_, hbel.grown h6 (by have := hbel.size; have := HB.out; omega) fun q hq => (World.ownsRow.lt o1 q hq).1⟩
          have h7 := RowsTo.mark (Z1 := marksZ k P) (z := intsV L) (Z2 := R'.map intsV) (z' := marksI x L.length) hrows (by rw [hml, hPl]; exact e1) (by rw [marksI_len]; exact h5) h6
          rw [marksZ_snoc, ← hxP, List.append_assoc]
          exact h7
        clear hrows hbel hz e1 o1 hxP hPR hPl hlen hsz hszR hml hLm
        go_wp2_with fail
        refine HC.out.mono ?_
        rintro e w2 ⟨rfl, h5, h6⟩
        have HM := Lib.hid (HN.out w2 h5 h6)
        clear h5 h6
        go_wp2
        go_roundw
        case rel => exact ⟨j + 1, x + L.length, by omega, hxl, by go_num, rfl, HM.out⟩
        case measure => simp [intOf]; omega
      · obtain rfl : R = [] := List.eq_nil_of_length_eq_zero (by omega)
        rw [List.append_nil] at hPR
        subst hPR
        rw [List.map_nil, List.append_nil] at hrows
        have HR := Lib.hid (And.intro hrows hbel)
        have HX := Lib.hid hxP
        clear hrows hbel hxP hsz hlen
        go_wp2
        go_ret
        exact ⟨ret_int (by rw [HX.out]), HR.out⟩
set_option maxHeartbeats 1000000 in
theorem heldSS_any (base top : Nat) (V : Value) (LL : List (List Int)) (w : World) (k : Nat) (hk : k + szL LL ≤ 8388608) (hn : LL.length ≤ 1048576) (hl : ∀ L ∈ LL, L.length ≤ 1048576) (vs : List Value) (h : RowsTo w base top V vs (marksZ k LL)) :
    Calls Try.prog 39 #[V, .int .i64 k] w fun e w' => e = .returned (.int .i64 ((k + szL LL : Nat) : Int)) ∧ w = w' := by
  have l1 : vs.length = LL.length := by rw [h.len, marksZ_len]
  have O1 := h.out
  rw [l1] at O1
  rcases Nat.eq_zero_or_pos LL.length with h0 | h0
  · obtain rfl : LL = [] := List.eq_nil_of_length_eq_zero h0
    obtain ⟨A1, c1, rfl⟩ := own_any O1
    clear h O1 l1 h0 hn hl hk
    go_enter Try.func39, Try.ntmps39
    go_wp2
    refine wp_loop_rounds 1 ?_
    rw [rounds_succ]
    go_wp2
    go_ret
    exact ⟨rfl, rfl⟩
  · obtain ⟨g1, c1, rfl, -, hg1⟩ := own_some O1 h0
    have HH : Hid (∀ P L R, LL = P ++ L :: R → ∃ A c, w.cell? ⟨g1, P.length, none⟩ = some (.slice A L.length c) ∧ Calls Try.prog 29 #[.slice A L.length c, .int .i64 ((k + szL P : Nat) : Int)] w fun e w' => e = .returned (.int .i64 ((k + szL P + L.length : Nat) : Int)) ∧ w = w') := Lib.hid fun P L R hPR => by
      have hz : (marksZ k LL)[P.length]? = some (marksI (k + szL P) L.length) := by rw [hPR]; exact marksZ_at k P L R
      obtain ⟨A, c, e1, o1⟩ := OwnSS.at h hz
      rw [marksI_len] at e1 o1
      have hlen : LL.length = P.length + (R.length + 1) := by rw [hPR, List.length_append, List.length_cons]
      have hsz : szL LL = szL P + (L.length + szL R) := by rw [hPR, szL_append]; rfl
      exact ⟨A, c, by rw [World.ownsRow.cellAt O1 P.length (by omega), e1], heldInts_any 3 base L.length (.slice A L.length c) w (k + szL P) (by omega) (hl L (by rw [hPR]; simp)) o1⟩
    clear h O1 l1 hl
    go_enter Try.func39, Try.ntmps39
    go_wp2
    go_loop [1, 5] (fun m i => ∃ j x : Nat, j ≤ LL.length ∧ x ≤ 8388608 ∧ i = .int .i64 j ∧ m = .int .i64 x ∧ Hid (∃ P R, LL = P ++ R ∧ P.length = j ∧ x = k + szL P)) (fun _ i => LL.length - (intOf i).toNat)
    case atStart => exact ⟨0, k, Nat.zero_le _, by omega, rfl, rfl, Lib.hid ⟨[], LL, rfl, rfl, rfl⟩⟩
    case round =>
      obtain ⟨j, x, hj, hx, rfl, rfl, hP⟩ := hrel
      obtain ⟨P, R, hPR, hPl, hxP⟩ := hP.out
      have hlen : LL.length = P.length + R.length := by rw [hPR, List.length_append]
      have hsz : szL LL = szL P + szL R := by rw [hPR, szL_append]
      by_cases hlt : j < LL.length
      · obtain ⟨L, R', rfl⟩ : ∃ L R', R = L :: R' := by
          cases R with
          | nil => rw [List.length_nil] at hlen; omega
          | cons L R' => exact ⟨L, R', rfl⟩
        have hszR : szL (L :: R') = L.length + szL R' := rfl
        obtain ⟨A, c, hcell, hc⟩ := HH.out P L R' hPR
        rw [← hxP] at hc
        rw [hPl] at hcell
        have HC := Lib.hid hc
        have HX : Hid (∃ P R, LL = P ++ R ∧ P.length = j + 1 ∧ x + L.length = k + szL P) := Lib.hid ⟨P ++ [L], R', by rw [hPR]; simp, by rw [List.length_append]; show P.length + 1 = _; omega, by rw [szL_append, hxP]; show _ = k + (szL P + (L.length + 0)); omega⟩
        have hxl : x + L.length ≤ 8388608 := by omega
        have hx0 : ¬ (((x + L.length : Nat) : Int) < 0) := by omega
        clear hc hxP hPR hPl hlen hsz hszR hP
        go_wp2_with fail
        refine HC.out.mono ?_
        rintro e w2 ⟨rfl, rfl⟩
        go_wp2
        go_round
        case rel => exact ⟨j + 1, x + L.length, by omega, hxl, by go_num, rfl, HX⟩
        case measure => simp [intOf]; omega
      · obtain rfl : R = [] := List.eq_nil_of_length_eq_zero (by omega)
        rw [List.append_nil] at hPR
        have HX : Hid (x = k + szL LL) := Lib.hid (by rw [hPR]; exact hxP)
        clear hPR hxP hsz hlen hP
        go_wp2
        go_ret
        exact ⟨ret_int (by have := HX.out; omega), rfl⟩
end Go.Proofs.Ytfickmbfbmbjcaa

/- The law's marks on lists of lists turn nothing beside them. No condition but the lists' lengths. -/
import Derived.Test.YtfickmbfbmbjcaaSS2
namespace Go.Proofs.Ytfickmbfbmbjcaa
open Go.RowKit

/-- what lies from a block on is as it was -/
def Side (t : Nat) (w w' : World) : Prop := ∀ i, t ≤ i → i < w.heap.size → w'.heap[i]? = w.heap[i]?
theorem Side.refl (t : Nat) (w : World) : Side t w w := fun _ _ _ => rfl
theorem Side.grown {t : Nat} {a w w' : World} {r : Option Nat} (h : Side t a w) (hs : a.heap.size ≤ w.heap.size) (hg : w.grownBy w' r) (hr : ∀ k, r = some k → k < t) : Side t a w' := fun i h1 h2 => by
  rw [hg.block i (by omega) (fun e => by have := hr i e.symm; omega), h i h1 h2]
theorem own_side {w w' : World} {base n size top : Nat} {e : TypeId} {v : Value} {xs : List Value} (h : w.ownsRow base e size v n xs) (hb : top ≤ base) (hs : Side top w w') : w'.ownsRow base e size v n xs := by
  refine ⟨h.1, ?_⟩
  rcases h.2 with hn | ⟨g, cap, cur, rfl, h1, hg, rest⟩
  · exact .inl hn
  · refine .inr ⟨g, cap, cur, rfl, h1, ?_, rest⟩
    rw [hs g (by omega) (Array.getElem?_eq_some_iff.1 hg).1]
    exact hg
def MarkedS3 (w : World) (base top : Nat) (V : Value) (vs : List Value) (LL : List (List Int)) (k j x : Nat) (wr : World) : Prop :=
  ∃ P R, LL = P ++ R ∧ P.length = j ∧ x = k + szL P ∧ RowsTo wr base top V vs (marksZ k P ++ R.map intsV) ∧ Below base w wr ∧ Side top w wr
set_option maxHeartbeats 1000000 in
theorem markSS3_any (base top : Nat) (V : Value) (LL : List (List Int)) (w : World) (k : Nat) (hk : k + szL LL ≤ 8388608) (hn : LL.length ≤ 1048576) (hl : ∀ L ∈ LL, L.length ≤ 1048576) (vs : List Value) (hb : base ≤ w.heap.size) (h : RowsTo w base top V vs (LL.map intsV)) :
    Calls Try.prog 38 #[V, .int .i64 k] w fun e w' => e = .returned (.int .i64 ((k + szL LL : Nat) : Int)) ∧ RowsTo w' base top V vs (marksZ k LL) ∧ Below base w w' ∧ Side top w w' := by
  have l1 : vs.length = LL.length := by rw [h.len, List.length_map]
  have O1 := h.out
  rw [l1] at O1
  rcases Nat.eq_zero_or_pos LL.length with h0 | h0
  · obtain rfl : LL = [] := List.eq_nil_of_length_eq_zero h0
    have HR := Lib.hid h
    obtain ⟨A1, c1, rfl⟩ := own_any O1
    clear h O1 l1 h0 hn hl hk hb
    go_enter Try.func38, Try.ntmps38
    go_wp2
    refine wp_loop_rounds 1 ?_
    rw [rounds_succ]
    go_wp2
    go_ret
    exact ⟨rfl, HR.out, Below.refl _ _, Side.refl _ _⟩
  · obtain ⟨g1, c1, rfl, -, hg1⟩ := own_some O1 h0
    have HS : Hid (MarkedS3 w base top (.slice (some ⟨g1, 0, none⟩) LL.length c1) vs LL k 0 k w) := Lib.hid ⟨[], LL, rfl, rfl, rfl, h, Below.refl _ _, Side.refl _ _⟩
    have HL := Lib.hid hl
    have HB := Lib.hid hb
    have HV := Lib.hid l1
    clear h O1 l1 hl hb
    go_enter Try.func38, Try.ntmps38
    go_wp2
    go_loopw [1, 5] (fun m i wr => ∃ j x : Nat, j ≤ LL.length ∧ x ≤ 8388608 ∧ i = .int .i64 j ∧ m = .int .i64 x ∧ MarkedS3 w base top (.slice (some ⟨g1, 0, none⟩) LL.length c1) vs LL k j x wr) (fun _ i _ => LL.length - (intOf i).toNat)
    case atStart => exact ⟨0, k, Nat.zero_le _, by omega, rfl, rfl, HS.out⟩
    case round =>
      obtain ⟨j, x, hj, hx, rfl, rfl, P, R, hPR, hPl, hxP, hrows, hbel, hside⟩ := hrel
      have hlen : LL.length = P.length + R.length := by rw [hPR, List.length_append]
      have hsz : szL LL = szL P + szL R := by rw [hPR, szL_append]
      by_cases hlt : j < LL.length
      · obtain ⟨L, R', rfl⟩ : ∃ L R', R = L :: R' := by
          cases R with
          | nil => rw [List.length_nil] at hlen; omega
          | cons L R' => exact ⟨L, R', rfl⟩
        have hszR : szL (L :: R') = L.length + szL R' := rfl
        have hLm : L.length ≤ 1048576 := HL.out L (by rw [hPR]; simp)
        have hml : (marksZ k P).length = P.length := marksZ_len k P
        have hz : (marksZ k P ++ (L :: R').map intsV)[j]? = some (intsV L) := by
          rw [List.getElem?_append_right (by omega), hml, hPl, Nat.sub_self]; rfl
        obtain ⟨A, c, e1, o1⟩ := OwnSS.at hrows hz
        rw [intsV_len] at e1 o1
        have HX : Hid (x + L.length = k + szL (P ++ [L])) := Lib.hid (by rw [szL_append, hxP]; show _ = k + (szL P + (L.length + 0)); omega)
        have hxl : x + L.length ≤ 8388608 := by omega
        have hcell : wr.cell? ⟨g1, j, none⟩ = some (.slice A L.length c) := by
          have h3 := hrows.out
          rw [HV.out] at h3
          rw [World.ownsRow.cellAt h3 j (by omega), e1]
        have HC := Lib.hid (markInts_any 3 base L.length (.slice A L.length c) L wr x hx hLm rfl o1)
        have HN : Hid (∀ w2, w2.ownsRow base 3 1 (.slice A L.length c) L.length (marksI x L.length) → wr.grownBy w2 (Value.slice A L.length c).ownBlock → MarkedS3 w base top (.slice (some ⟨g1, 0, none⟩) LL.length c1) vs LL k (j + 1) (x + L.length) w2) := Lib.hid fun w2 h5 h6 => by
          refine ⟨P ++ [L], R', by rw [hPR]; simp, by rw [List.length_append]; show P.length + 1 = _; omega, HX.out, ?_, hbel.grown h6 (by have := hbel.size; have := HB.out; omega) fun q hq => (World.ownsRow.lt o1 q hq).1, hside.grown hbel.size h6 fun q hq => hrows.top2 j _ e1 q hq⟩
          have h7 := RowsTo.mark (Z1 := marksZ k P) (z := intsV L) (Z2 := R'.map intsV) (z' := marksI x L.length) hrows (by rw [hml, hPl]; exact e1) (by rw [marksI_len]; exact h5) h6
          rw [marksZ_snoc, ← hxP, List.append_assoc]
          exact h7
        clear hrows hbel hside hz e1 o1 hxP hPR hPl hlen hsz hszR hml hLm
        go_wp2_with fail
        refine HC.out.mono ?_
        rintro e w2 ⟨rfl, h5, h6⟩
        have HM := Lib.hid (HN.out w2 h5 h6)
        clear h5 h6
        go_wp2
        go_roundw
        case rel => exact ⟨j + 1, x + L.length, by omega, hxl, by go_num, rfl, HM.out⟩
        case measure => simp [intOf]; omega
      · obtain rfl : R = [] := List.eq_nil_of_length_eq_zero (by omega)
        rw [List.append_nil] at hPR
        subst hPR
        rw [List.map_nil, List.append_nil] at hrows
        have HR := Lib.hid (And.intro hrows (And.intro hbel hside))
        have HX := Lib.hid hxP
        clear hrows hbel hside hxP hsz hlen
        go_wp2
        go_ret
        exact ⟨ret_int (by rw [HX.out]), HR.out⟩
end Go.Proofs.Ytfickmbfbmbjcaa

/- Least times in the program: 'impl.worksWithin', the search, 'impl.leastTime'. No condition but the numbers' bounds. -/
import Derived.Test.YteiaidjknnbpjaaHandOut
import Derived.Test.YteiaidjknnbpjaaTogether
namespace Go.Proofs.Yteiaidjknnbpjaa
open Go.RowKit

theorem caps_len (R : List Int) (m : Int) : (capsOf R m).length = R.length := by simp [capsOf]
theorem caps_at (R : List Int) (m : Int) (j : Nat) (h : j < R.length) : ((capsOf R m).map (Value.int .i64))[j]? = some (.int .i64 (m / R[j])) := by
  unfold capsOf
  rw [List.map_map, List.getElem?_map, List.getElem?_eq_getElem h]; rfl
theorem caps_bd {R : List Int} {m : Int} (hR : ∀ x ∈ R, 1 ≤ x ∧ x ≤ 20) (h0 : 0 ≤ m) (h1 : m ≤ 30000) : ∀ x ∈ capsOf R m, 0 ≤ x ∧ x ≤ 30000 := by
  intro x hx
  unfold capsOf at hx
  obtain ⟨r, hr, rfl⟩ := List.mem_map.1 hx
  have := hR r hr
  exact ⟨Int.ediv_nonneg h0 (by omega), Int.le_trans (Int.ediv_le_self _ h0) h1⟩

set_option maxRecDepth 20000 in
set_option maxHeartbeats 2000000 in
theorem worksWithin_any (A : Option Addr) (c : Nat) (R : List Int) (m : Nat) (w : World) (hm : m ≤ 30000) (hR1 : 1 ≤ R.length) (hRl : R.length ≤ 5) (hRx : ∀ x ∈ R, 1 ≤ x ∧ x ≤ 20) (h : IntSl w A R) :
    Calls Try.prog 75 #[.slice A R.length c, .int .i64 m] w fun e w' => e = .returned (.slice (some ⟨w.heap.size, 0, none⟩) R.length R.length) ∧ OwnInts w' w.heap.size 3 (.slice (some ⟨w.heap.size, 0, none⟩) R.length R.length) (capsOf R m) ∧ Below w.heap.size w w' := by
  obtain ⟨i0, hi, hz0, hz1, hz2⟩ := info_parts info_int
  obtain ⟨g, off, rfl, hg, hat⟩ := h.some (by omega)
  have HAT := Lib.hid hat
  have HX := Lib.hid hRx
  clear hat h hRx
  go_enter Try.func75, Try.ntmps75
  go_wp2_with (at_make; refine wpList_make_full _ rfl (.tmp 9) (.tmp 9) _ rfl w.heap.size 3 i0 _ 1 Try.underlying24 hi hz0 hz1 .i64 .i64 _ _ R.length rfl rfl rfl rfl (by rw [hz2]; omega) (by unfold maxLen; omega) (Nat.le_refl _) ?_; intro w1 hown hgrow)
  have HF : Hid (Filled w w.heap.size 3 1 (.slice (some ⟨w.heap.size, 0, none⟩) R.length R.length) R.length ((capsOf R m).map (Value.int .i64)) 0 w1) := Lib.hid (Filled.made hown ((Below.refl _ _).grown hgrow (Nat.le_refl _) (fun k hk => by cases hk)))
  clear hown hgrow
  go_loopw [6, 7, 13] (fun _ _ i wr => ∃ j : Nat, j ≤ R.length ∧ i = .int .i64 j ∧ Filled w w.heap.size 3 1 (.slice (some ⟨w.heap.size, 0, none⟩) R.length R.length) R.length ((capsOf R m).map (Value.int .i64)) j wr) (fun _ _ i _ => R.length - (intOf i).toNat)
  case atStart => exact ⟨0, Nat.zero_le _, rfl, HF.out⟩
  case round =>
    clear HF
    obtain ⟨j, hj, rfl, hf⟩ := hrel
    have HF1 := Lib.hid hf
    clear hf
    by_cases hlt : j < R.length
    · have c1 := HAT.out.below HF1.out.below0 hg j hlt
      obtain ⟨⟨u1, d1⟩, f1⟩ := HF1.out.cell j (by omega)
      have K1 := Lib.hid (caps_at R m j hlt)
      have hr := HX.out R[j] (List.getElem_mem hlt)
      obtain ⟨r, hrr⟩ : ∃ r, r = R[j] := ⟨_, rfl⟩
      rw [← hrr] at hr c1 K1
      have HQ : Hid ((m : Int) / r = (m : Int).tdiv r) := Lib.hid (by rw [Int.tdiv_eq_ediv_of_nonneg (by omega)])
      have hq0 : 0 ≤ (m : Int) / r := Int.ediv_nonneg (by omega) (by omega)
      have hq1 : (m : Int) / r ≤ 30000 := Int.le_trans (Int.ediv_le_self _ (by omega)) (by omega)
      obtain ⟨q, hqq⟩ : ∃ q, q = (m : Int) / r := ⟨_, rfl⟩
      rw [← hqq] at HQ K1 hq0 hq1
      have tq : (m : Int).tdiv r = q := HQ.out.symm
      have dq : (m : Int) / r = q := hqq.symm
      have y0 : (0 : Int) < r := by omega
      have y1 : (1 : Int) ≤ r := by omega
      have x0 : (0 : Int) ≤ (m : Int) := by omega
      have yz : (r == 0) = false := by rw [beq_eq_false_iff_ne]; omega
      have hj0 : (0 : Int) ≤ (j : Int) := by omega
      have hj1 : (j : Int) < (R.length : Int) := by omega
      clear hrr HQ hqq
      go_wp2
      go_roundw
      case rel => exact ⟨j + 1, by omega, by go_num, HF1.out.step (by omega) (Nat.le_refl _) K1.out⟩
      case measure => simp [intOf]; omega
    · obtain rfl : j = R.length := by omega
      have HA := Lib.hid (Filled.all (by rw [Nat.mul_one]; exact HF1.out) (by rw [List.length_map, caps_len, Nat.mul_one]))
      have HV : Hid (OwnInts wr w.heap.size 3 (.slice (some ⟨w.heap.size, 0, none⟩) R.length R.length) (capsOf R m)) := Lib.hid (by unfold OwnInts; rw [caps_len]; exact HA.out.1)
      go_wp2
      go_ret
      exact ⟨rfl, HV.out, HA.out.2⟩

/-- all boards are painted in so many minutes -/
def inTime (W R : List Int) (m : Nat) : Bool := decide (leftG W (capsOf R m) = [])

set_option maxRecDepth 20000 in
set_option maxHeartbeats 2000000 in
theorem leastFn_any (b1 b2 : Nat) (A0 : Option Addr) (c0 : Nat) (W : List Int) (A1 : Option Addr) (c1 : Nat) (R : List Int) (m : Nat) (w : World) (hw : okW W = true) (hr : okR R = true) (hm : m ≤ 30000) (hb1 : b1 < w.heap.size) (hb2 : b2 < w.heap.size)
    (k1 : w.cell? ⟨b1, 0, none⟩ = some (.slice A0 W.length c0)) (k2 : w.cell? ⟨b2, 0, none⟩ = some (.slice A1 R.length c1)) (h0 : IntSl w A0 W) (h1 : IntSl w A1 R) :
    Calls Try.prog 120 #[.int .i64 m, .pointer (some ⟨b1, 0, none⟩), .pointer (some ⟨b2, 0, none⟩)] w fun e w' => e = .returned (.bool (inTime W R m)) ∧ Below w.heap.size w w' := by
  have hwl := okW_len hw
  have hrl := okR_len hr
  have HWW := Lib.hid fun W' hW' => worksWithin_any A1 c1 R m W' hm hrl.1 hrl.2 (okR_mem hr) hW'
  have HHO := Lib.hid fun A c W' (x : IntSl W' A0 W) (y : IntSl W' A (capsOf R m)) => handOut_any A0 c0 W A c (capsOf R m) W' hwl.1 hwl.2 (okW_mem hw) (by rw [caps_len]; exact hrl.1) (by rw [caps_len]; omega) (caps_bd (okR_mem hr) (by omega) (by omega)) x y
  rw [caps_len] at HHO
  have HS0 := Lib.hid h0
  have HS1 := Lib.hid h1
  have hd1 : ∀ W', Below w.heap.size w W' → W'.cell? ⟨b1, 0, none⟩ = some (.slice A0 W.length c0) := fun W' hW' => (hW'.cell (p := ⟨b1, 0, none⟩) hb1).trans k1
  have hd2 : ∀ W', Below w.heap.size w W' → W'.cell? ⟨b2, 0, none⟩ = some (.slice A1 R.length c1) := fun W' hW' => (hW'.cell (p := ⟨b2, 0, none⟩) hb2).trans k2
  have HD1 := Lib.hid hd1
  have HD2 := Lib.hid hd2
  unfold inTime
  by_cases hG : leftG W (capsOf R m) = []
  · rw [decide_eq_true hG]
    have HH : Hid (∀ A c W', IntSl W' A0 W → IntSl W' A (capsOf R m) → Calls Try.prog 73 #[.slice A0 W.length c0, .slice A R.length c] W' fun e w' => e = .returned (.tuple #[.slice (some ⟨W'.heap.size, 0, none⟩) R.length R.length, .bool true]) ∧ Below W'.heap.size W' w') := Lib.hid fun A c W' x y => (HHO.out A c W' x y).mono fun e w' h => by
      unfold HandPost at h
      rw [if_pos hG, caps_len] at h
      exact ⟨h.1.1, h.2⟩
    clear h0 h1 HHO hG hw hr hwl hrl hd1 hd2
    go_enter Try.func120, Try.ntmps120
    go_wp2
    go_region_held3 (fun x => x.cell? ⟨b1, 0, none⟩ = some (.slice A0 W.length c0) ∧ x.cell? ⟨b2, 0, none⟩ = some (.slice A1 R.length c1))
      (first | go_keep | exact ⟨HD1.out _ HB1.out, HD2.out _ HB1.out⟩ | exact ⟨HD1.out _ HB2.out, HD2.out _ HB2.out⟩)
      (first
        | (go_at_call 75; refine (HWW.out _ (HS1.out.below (Below.refl _ _).drew)).mono ?_; rintro e w1 ⟨rfl, hown, hb⟩; have HO1 := Lib.hid hown; have HB1 := Lib.hid (below_next (Below.refl _ _).drew hb); clear hown hb)
        | (go_at_call 73; refine (HH.out _ _ _ (HS0.out.below HB1.out) (IntSl.of_own HO1.out)).mono ?_; rintro e w2 ⟨rfl, hb⟩; have HB2 := Lib.hid (below_next HB1.out hb); clear hb))
    go_wp2
    go_ret
    exact ⟨rfl, HB2.out⟩
  · rw [decide_eq_false hG]
    have HH : Hid (∀ A c W', IntSl W' A0 W → IntSl W' A (capsOf R m) → Calls Try.prog 73 #[.slice A0 W.length c0, .slice A R.length c] W' fun e w' => e = .returned (.tuple #[.slice none 0 0, .bool false]) ∧ Below W'.heap.size W' w') := Lib.hid fun A c W' x y => (HHO.out A c W' x y).mono fun e w' h => by
      unfold HandPost at h
      rw [if_neg hG] at h
      exact h
    clear h0 h1 HHO hG hw hr hwl hrl hd1 hd2
    go_enter Try.func120, Try.ntmps120
    go_wp2
    go_region_held3 (fun x => x.cell? ⟨b1, 0, none⟩ = some (.slice A0 W.length c0) ∧ x.cell? ⟨b2, 0, none⟩ = some (.slice A1 R.length c1))
      (first | go_keep | exact ⟨HD1.out _ HB1.out, HD2.out _ HB1.out⟩ | exact ⟨HD1.out _ HB2.out, HD2.out _ HB2.out⟩)
      (first
        | (go_at_call 75; refine (HWW.out _ (HS1.out.below (Below.refl _ _).drew)).mono ?_; rintro e w1 ⟨rfl, hown, hb⟩; have HO1 := Lib.hid hown; have HB1 := Lib.hid (below_next (Below.refl _ _).drew hb); clear hown hb)
        | (go_at_call 73; refine (HH.out _ _ _ (HS0.out.below HB1.out) (IntSl.of_own HO1.out)).mono ?_; rintro e w2 ⟨rfl, hb⟩; have HB2 := Lib.hid (below_next HB1.out hb); clear hb))
    go_wp2
    go_ret
    exact ⟨rfl, HB2.out⟩

theorem inTime_iff {W R : List Int} (hw : okW W = true) (hr : okR R = true) (m : Nat) : inTime W R m = true ↔ leastT W R ≤ m := by
  have hrl := okR_len hr
  unfold inTime
  rw [decide_eq_true_iff]
  exact (least_iff (fun x hx => (okR_mem hr x hx).1) (by intro e; rw [e] at hrl; simp at hrl) (fun x hx => (okW_mem hw x hx).1) (m : Int) (by omega)).symm
theorem least_bd {W R : List Int} (hw : okW W = true) (hr : okR R = true) : 0 ≤ leastT W R ∧ leastT W R ≤ 24000 := by
  have hrl := okR_len hr
  have hW : Pos W := fun x hx => (okW_mem hw x hx).1
  have hR : Pos R := fun x hx => (okR_mem hr x hx).1
  refine ⟨leastT_nonneg hR hW, ?_⟩
  have h1 := leastT_le (r := 20) (by intro e; rw [e] at hrl; simp at hrl) hW hR fun x hx => (okR_mem hr x hx).2
  have h2 := sum_w rfl (okW_len hw).2 (okW_mem hw)
  omega

set_option maxRecDepth 20000 in
set_option maxHeartbeats 2000000 in
theorem search_any (g b1 b2 n : Nat) (p : Nat → Bool) (w : World) (hg : g = 120) (hn : n ≤ 30000)
    (hf : ∀ (i : Nat) (W : World), i < n → Below w.heap.size w W → Calls Try.prog g #[.int .i64 i, .pointer (some ⟨b1, 0, none⟩), .pointer (some ⟨b2, 0, none⟩)] W fun e w' => e = .returned (.bool (p i)) ∧ Below W.heap.size W w')
    (hm : ∀ a b, a ≤ b → p a = true → p b = true) :
    Calls Try.prog 119 #[.int .i64 n, .func (.func g) #[] #[.pointer (some ⟨b1, 0, none⟩), .pointer (some ⟨b2, 0, none⟩)]] w fun e w' => ∃ m : Nat, e = .returned (.int .i64 m) ∧ ((∀ t, t < m → p t = false) ∧ ∀ t, m ≤ t → t < n → p t = true) ∧ Below w.heap.size w w' := by
  subst hg
  have HF := Lib.hid hf
  have HM := Lib.hid hm
  clear hf hm
  go_enter Try.func119, Try.ntmps119
  go_wp2
  go_loopw [5, 6, 7] (fun u v _ wr => ∃ lo hi : Nat, u = .int .i64 lo ∧ v = .int .i64 hi ∧ lo ≤ hi ∧ hi ≤ n ∧ Hid ((∀ t, t < lo → p t = false) ∧ ∀ t, hi ≤ t → t < n → p t = true) ∧ Below w.heap.size w wr) (fun u v _ _ => (intOf v).toNat - (intOf u).toNat)
  case atStart => exact ⟨0, n, rfl, rfl, Nat.zero_le _, Nat.le_refl _, Lib.hid ⟨fun t ht => absurd ht (Nat.not_lt_zero _), fun t h1 h2 => by omega⟩, Below.refl _ _⟩
  case round =>
    obtain ⟨lo, hi, rfl, rfl, hlh, hin, hI, hb⟩ := hrel
    have HB := Lib.hid hb
    by_cases hlt : lo < hi
    · have HC := Lib.hid (HF.out ((lo + hi) / 2) wr (by omega) hb)
      rw [show (((lo + hi) / 2 : Nat) : Int) = ((lo : Int) + (hi : Int)) / 2 by omega] at HC
      clear hb
      cases hp : p ((lo + hi) / 2)
      · rw [hp] at HC
        have HP := Lib.hid hp
        clear hp
        go_wp2_with fail
        refine HC.out.mono ?_
        rintro e w1 ⟨rfl, hb1⟩
        go_wp2
        go_roundw
        case rel => exact ⟨(lo + hi) / 2 + 1, hi, by go_num, rfl, by omega, hin, Lib.hid ⟨fun t ht => (by
            cases h : p t with
            | false => rfl
            | true => have := HM.out t ((lo + hi) / 2) (by omega) h; rw [HP.out] at this; cases this), hI.out.2⟩, below_next HB.out hb1⟩
        case measure => simp [intOf]; omega
      · rw [hp] at HC
        have HP := Lib.hid hp
        clear hp
        go_wp2_with fail
        refine HC.out.mono ?_
        rintro e w1 ⟨rfl, hb1⟩
        go_wp2
        go_roundw
        case rel => exact ⟨lo, (lo + hi) / 2, rfl, by go_num, by omega, by omega, Lib.hid ⟨hI.out.1, fun t ht _ => HM.out ((lo + hi) / 2) t ht HP.out⟩, below_next HB.out hb1⟩
        case measure => simp [intOf]; omega
    · obtain rfl : hi = lo := by omega
      go_wp2
      go_ret
      exact ⟨hi, rfl, hI.out, hb⟩

set_option maxRecDepth 20000 in
set_option maxHeartbeats 2000000 in
theorem leastTime_any (A0 : Option Addr) (c0 : Nat) (W : List Int) (A1 : Option Addr) (c1 : Nat) (R : List Int) (w : World) (hw : okW W = true) (hr : okR R = true) (h0 : IntSl w A0 W) (h1 : IntSl w A1 R) :
    Calls Try.prog 80 #[.slice A0 W.length c0, .slice A1 R.length c1] w fun e w' => e = .returned (.int .i64 (leastT W R)) ∧ Below w.heap.size w w' := by
  have hbd := least_bd hw hr
  obtain ⟨W1, hW1⟩ : ∃ W1, W1 = w.alloc (.cells #[.slice A0 W.length c0] 24) := ⟨_, rfl⟩
  obtain ⟨W2, hW2⟩ : ∃ W2, W2 = W1.alloc (.cells #[.slice A1 R.length c1] 24) := ⟨_, rfl⟩
  have hs1 : W1.heap.size = w.heap.size + 1 := by rw [hW1]; simp
  have hs2 : W2.heap.size = w.heap.size + 2 := by rw [hW2]; simp [hs1]
  have hB1 : Below w.heap.size w W1 := by rw [hW1]; exact below_new w _
  have hB2 : Below w.heap.size w W2 := by rw [hW2]; exact hB1.alloc (by omega) _
  have k1 : W2.cell? ⟨w.heap.size, 0, none⟩ = some (.slice A0 W.length c0) := by
    have e : W1.cell? ⟨w.heap.size, 0, none⟩ = some (.slice A0 W.length c0) := by rw [hW1, cell_of_row _ w.heap.size 0 _ _ (0, 0) (heap_alloc_new w _)]; rfl
    rw [← e, hW2]
    exact (below_new W1 _).cell (p := ⟨w.heap.size, 0, none⟩) (by show w.heap.size < _; omega)
  have k2 : W2.cell? ⟨w.heap.size + 1, 0, none⟩ = some (.slice A1 R.length c1) := by
    rw [← hs1, hW2, cell_of_row _ W1.heap.size 0 _ _ (0, 0) (heap_alloc_new W1 _)]; rfl
  have HS := Lib.hid (search_any 120 w.heap.size (w.heap.size + 1) 30000 (inTime W R) W2 rfl (Nat.le_refl _) (fun i W' hi hW' =>
      leastFn_any w.heap.size (w.heap.size + 1) A0 c0 W A1 c1 R i W' hw hr (by omega) (by have := hW'.size; omega) (by have := hW'.size; omega)
        ((hW'.cell (p := ⟨w.heap.size, 0, none⟩) (by show w.heap.size < _; omega)).trans k1) ((hW'.cell (p := ⟨w.heap.size + 1, 0, none⟩) (by show w.heap.size + 1 < _; omega)).trans k2)
        ((h0.below hB2).below hW') ((h1.below hB2).below hW'))
    (fun a b hab ha => by rw [inTime_iff hw hr] at ha ⊢; omega))
  have HE : Hid (∀ m : Nat, ((∀ t, t < m → inTime W R t = false) ∧ ∀ t, m ≤ t → t < 30000 → inTime W R t = true) → (m : Int) = leastT W R) := Lib.hid fun m ⟨h1, h2⟩ => by
    obtain ⟨L, hL⟩ : ∃ L : Nat, leastT W R = L := ⟨(leastT W R).toNat, by omega⟩
    have hin : inTime W R L = true := by rw [inTime_iff hw hr]; omega
    have hle : ¬ L < m := fun h => by rw [h1 L h] at hin; cases hin
    have hge : ¬ m < L := fun h => by
      have := (inTime_iff hw hr m).1 (h2 m (Nat.le_refl _) (by omega))
      omega
    omega
  have HB2 := Lib.hid hB2
  rw [hW2, hW1] at HS HB2
  clear hw hr h0 h1 k1 k2 hB1 hB2 hs1 hs2 hW2 hW1 hbd
  go_enter Try.func80, Try.ntmps80
  go_wp2_with fail
  refine HS.out.mono ?_
  rintro e w3 ⟨m, rfl, hm, hb⟩
  have HV := Lib.hid (HE.out m hm)
  clear hm HE
  go_wp2
  go_ret
  exact ⟨ret_int HV.out, below_nextN HB2.out HB2.out.size hb⟩
end Go.Proofs.Yteiaidjknnbpjaa

/- LongestPart and ShortestPart of both sides. No condition but the list's length. -/
import Derived.Test.YtbocdhibimcobaaParts2
namespace Go.Proofs.Ytbocdhibimcobaa
open Go.RowKit

def lngA (n : Int) (L : List Int) : Int := if okGa n L = true then (((partL n L).idxOf (Lib.maxOf (partL n L)) : Nat) : Int) else 0
def lngB (n : Int) (L : List Int) : Int := if okGa n L = true then Lib.maxOf (partL n L) else 0
def shtA (n : Int) (L : List Int) : Int := if okGa n L = true then (((partL n L).idxOf (Lib.minOf (partL n L)) : Nat) : Int) else 0
def shtB (n : Int) (L : List Int) : Int := if okGa n L = true then Lib.minOf (partL n L) else 0
theorem topS_end {P : List Int} (h : 0 < P.length) : topS P P.length = (P.idxOf (Lib.maxOf P), Lib.maxOf P) := by
  unfold topS; rw [if_neg (by omega), List.take_length]
theorem lowS_end {n : Int} {P : List Int} (h : 0 < P.length) : lowS n P P.length = (P.idxOf (Lib.minOf P), Lib.minOf P) := by
  unfold lowS; rw [if_neg (by omega), List.take_length]

set_option maxHeartbeats 1000000 in
theorem specLongestPart_no (n : Int) (A : Option Addr) (c : Nat) (L : List Int) (w : World) (hm : L.length ≤ 1048576) (h : IntSl w A L) (hok : (okGa n L) = false) :
    Calls Try.prog 28 #[.int .i64 n, .slice A L.length c] w fun e w' => e = .returned (.tuple #[.int .i64 0, .int .i64 0, .bool false]) ∧ Below w.heap.size w w' := by
  have H0 := Lib.hid (gaAre_any n A c L w hm h)
  cases h0 : okGa n L
  · clear hok
    rw [h0] at H0
    clear h0
    go_enter Try.func28, Try.ntmps28
    go_wp2_with fail
    refine H0.out.mono ?_
    rintro e w1 ⟨rfl, rfl⟩
    go_wp2
    go_ret3
    exact ⟨rfl, Below.refl _ _⟩
  · rw [h0] at hok; simp at hok
set_option maxHeartbeats 1000000 in
theorem specShortestPart_no (n : Int) (A : Option Addr) (c : Nat) (L : List Int) (w : World) (hm : L.length ≤ 1048576) (h : IntSl w A L) (hok : (okGa n L) = false) :
    Calls Try.prog 30 #[.int .i64 n, .slice A L.length c] w fun e w' => e = .returned (.tuple #[.int .i64 0, .int .i64 0, .bool false]) ∧ Below w.heap.size w w' := by
  have H0 := Lib.hid (gaAre_any n A c L w hm h)
  cases h0 : okGa n L
  · clear hok
    rw [h0] at H0
    clear h0
    go_enter Try.func30, Try.ntmps30
    go_wp2_with fail
    refine H0.out.mono ?_
    rintro e w1 ⟨rfl, rfl⟩
    go_wp2
    go_ret3
    exact ⟨rfl, Below.refl _ _⟩
  · rw [h0] at hok; simp at hok

set_option maxRecDepth 20000 in
set_option maxHeartbeats 2000000 in
theorem specLongestPart_any (a0 : Int) (A1 : Option Addr) (c1 : Nat) (L1 : List Int) (w : World) (_ : (Lit.int .i64 a0).wf = true) (l1 : L1.length ≤ 1048576) (_ : WfL L1) (_ : L1.length ≤ c1) (h1 : IntSl w A1 L1) :
    Calls Try.prog 28 #[.int .i64 a0, .slice A1 L1.length c1] w fun e w' => e = .returned (.tuple #[.int .i64 (lngA a0 L1), .int .i64 (lngB a0 L1), .bool (okGa a0 L1)]) ∧ Below w.heap.size w w' := by
  unfold lngA lngB
  cases hk : okGa a0 L1
  · exact specLongestPart_no a0 A1 c1 L1 w l1 h1 hk
  · rw [if_pos rfl, if_pos rfl]
    have HG := Lib.hid (gaAre_any a0 A1 c1 L1 w l1 h1)
    rw [hk] at HG
    have HP := Lib.hid (gaParts_any a0 A1 c1 L1 w hk h1)
    have hpl : (partL a0 L1).length ≤ 11 := by rw [partL_len]; have := (okGa_at hk).2.1; omega
    have hpp : 0 < (partL a0 L1).length := by rw [partL_len]; omega
    have HBD := Lib.hid (partL_bd hk)
    obtain ⟨P, hP⟩ : ∃ P, P = partL a0 L1 := ⟨_, rfl⟩
    rw [← hP] at HP hpl hpp HBD ⊢
    have HE := Lib.hid (topS_end hpp)
    have HP1 : Hid (∀ x ∈ P, 1 ≤ x) := Lib.hid fun x hx => (HBD.out x hx).1
    clear hk h1 hP
    go_enter Try.func28, Try.ntmps28
    go_wp2_with fail
    refine HG.out.mono ?_
    rintro e w1 ⟨rfl, rfl⟩
    go_wp2_with fail
    refine HP.out.mono ?_
    rintro e w1 ⟨v, rfl, hown, hb⟩
    obtain ⟨A, c, rfl⟩ := hown.len
    obtain ⟨g, off, rfl, hg, hat⟩ := (IntSl.of_own hown).some hpp
    have HAT := Lib.hid hat
    clear hown hat
    go_wp2
    go_loop [7, 8, 19] (fun a m i => ∃ k : Nat, k ≤ P.length ∧ i = .int .i64 k ∧ a = .int .i64 ((topS P k).1 : Nat) ∧ m = .int .i64 (topS P k).2) (fun _ _ i => P.length - (intOf i).toNat)
    case atStart => exact ⟨0, Nat.zero_le _, rfl, rfl, rfl⟩
    case round =>
      obtain ⟨k, hk, rfl, rfl, rfl⟩ := hrel
      by_cases hlt : k < P.length
      · have c1 := HAT.out k hlt
        have HY := Lib.hid (topS_yes hlt)
        have HN := Lib.hid (topS_no hlt HP1.out)
        obtain ⟨x, hx⟩ : ∃ x, x = P[k] := ⟨_, rfl⟩
        obtain ⟨m, hm⟩ : ∃ m, m = (topS P k).2 := ⟨_, rfl⟩
        obtain ⟨a, ha⟩ : ∃ a, a = (topS P k).1 := ⟨_, rfl⟩
        have HMA := Lib.hid (And.intro hm ha)
        rw [← hx] at c1 HY HN
        rw [← hm] at HY HN ⊢
        rw [← ha]
        have HX := Lib.hid hx
        clear hx hm ha
        by_cases hc : m < x
        · have HY2 := Lib.hid (HY.out hc)
          go_wp2
          go_round
          case rel => exact ⟨k + 1, by omega, by go_num, by rw [HY2.out], by rw [HY2.out]⟩
          case measure => simp [intOf]; omega
        · have HN2 := Lib.hid (HN.out hc)
          go_wp2
          go_round
          case rel => exact ⟨k + 1, by omega, by go_num, by rw [HN2.out, HMA.out.2], by rw [HN2.out, HMA.out.1]⟩
          case measure => simp [intOf]; omega
      · obtain rfl : k = P.length := by omega
        have HE2 := HE
        obtain ⟨m, hm⟩ : ∃ m, m = (topS P P.length).2 := ⟨_, rfl⟩
        obtain ⟨a, ha⟩ : ∃ a, a = (topS P P.length).1 := ⟨_, rfl⟩
        have HMA := Lib.hid (And.intro hm ha)
        rw [← hm, ← ha]
        clear hm ha
        go_wp2
        go_ret3
        exact ⟨ret_iib (by rw [HMA.out.2, HE.out]) (by rw [HMA.out.1, HE.out]) rfl, hb⟩

set_option maxRecDepth 20000 in
set_option maxHeartbeats 2000000 in
theorem implLongestPart_any (a0 : Int) (A1 : Option Addr) (c1 : Nat) (L1 : List Int) (w : World) (w0 : (Lit.int .i64 a0).wf = true) (l1 : L1.length ≤ 1048576) (f1 : WfL L1) (q1 : L1.length ≤ c1) (h1 : IntSl w A1 L1) :
    Calls Try.prog 29 #[.int .i64 a0, .slice A1 L1.length c1] w fun e w' => e = .returned (.tuple #[.int .i64 (lngA a0 L1), .int .i64 (lngB a0 L1), .bool (okGa a0 L1)]) ∧ Below w.heap.size w w' := by
  have HP := Lib.hid (implPartsOf_cap a0 A1 c1 L1 w w0 l1 f1 q1 h1)
  unfold lngA lngB
  cases hk : okGa a0 L1
  · rw [hk] at HP
    clear hk h1
    go_enter Try.func29, Try.ntmps29
    go_wp2_with fail
    refine HP.out.mono ?_
    rintro e w1 ⟨A, c, c', rfl, -, hb⟩
    go_wp2
    go_ret3
    exact ⟨rfl, hb⟩
  · rw [if_pos rfl, if_pos rfl]
    rw [hk, partsR_yes hk] at HP
    have hpl : (partL a0 L1).length ≤ 11 := by rw [partL_len]; have := (okGa_at hk).2.1; omega
    have hpp : 0 < (partL a0 L1).length := by rw [partL_len]; omega
    obtain ⟨P, hP⟩ : ∃ P, P = partL a0 L1 := ⟨_, rfl⟩
    rw [← hP] at HP hpl hpp ⊢
    have HZ := Lib.hid (idxZ_yes (maxOf_mem hpp).1)
    clear hk h1 hP
    go_enter Try.func29, Try.ntmps29
    go_wp2_with fail
    refine HP.out.mono ?_
    rintro e w1 ⟨A, c, c', rfl, hown, hb⟩
    have HS := Lib.hid (IntSl.of_own hown)
    clear hown
    go_wp2_with fail
    refine (slMax_any A c P w1 hpp (by omega) HS.out).mono ?_
    rintro e w2 ⟨rfl, rfl⟩
    have HI := Lib.hid (slIdx_any A c P (Lib.maxOf P) w1 (by omega) HS.out)
    obtain ⟨m, hm⟩ : ∃ m, m = Lib.maxOf P := ⟨_, rfl⟩
    rw [← hm] at HI HZ ⊢
    have HMM := Lib.hid hm
    obtain ⟨z, hz⟩ : ∃ z, z = idxZ P m := ⟨_, rfl⟩
    rw [← hz] at HI HZ
    clear hm hz
    go_wp2_with fail
    refine HI.out.mono ?_
    rintro e w2 ⟨rfl, rfl⟩
    go_wp2
    go_ret3
    exact ⟨ret_iib (by rw [HZ.out, HMM.out]) HMM.out rfl, hb⟩
set_option maxRecDepth 20000 in
set_option maxHeartbeats 2000000 in
theorem specShortestPart_any (a0 : Int) (A1 : Option Addr) (c1 : Nat) (L1 : List Int) (w : World) (_ : (Lit.int .i64 a0).wf = true) (l1 : L1.length ≤ 1048576) (_ : WfL L1) (_ : L1.length ≤ c1) (h1 : IntSl w A1 L1) :
    Calls Try.prog 30 #[.int .i64 a0, .slice A1 L1.length c1] w fun e w' => e = .returned (.tuple #[.int .i64 (shtA a0 L1), .int .i64 (shtB a0 L1), .bool (okGa a0 L1)]) ∧ Below w.heap.size w w' := by
  unfold shtA shtB
  cases hk : okGa a0 L1
  · exact specShortestPart_no a0 A1 c1 L1 w l1 h1 hk
  · rw [if_pos rfl, if_pos rfl]
    have HG := Lib.hid (gaAre_any a0 A1 c1 L1 w l1 h1)
    rw [hk] at HG
    have HP := Lib.hid (gaParts_any a0 A1 c1 L1 w hk h1)
    have hpl : (partL a0 L1).length ≤ 11 := by rw [partL_len]; have := (okGa_at hk).2.1; omega
    have hpp : 0 < (partL a0 L1).length := by rw [partL_len]; omega
    have HBD := Lib.hid (partL_bd hk)
    obtain ⟨P, hP⟩ : ∃ P, P = partL a0 L1 := ⟨_, rfl⟩
    rw [← hP] at HP hpl hpp HBD ⊢
    have HE := Lib.hid (lowS_end (n := a0) hpp)
    have HP1 : Hid (∀ x ∈ P, x ≤ a0) := Lib.hid fun x hx => (HBD.out x hx).2
    clear hk h1 hP
    go_enter Try.func30, Try.ntmps30
    go_wp2_with fail
    refine HG.out.mono ?_
    rintro e w1 ⟨rfl, rfl⟩
    go_wp2_with fail
    refine HP.out.mono ?_
    rintro e w1 ⟨v, rfl, hown, hb⟩
    obtain ⟨A, c, rfl⟩ := hown.len
    obtain ⟨g, off, rfl, hg, hat⟩ := (IntSl.of_own hown).some hpp
    have HAT := Lib.hid hat
    clear hown hat
    go_wp2
    go_loop [7, 8, 20] (fun a m i => ∃ k : Nat, k ≤ P.length ∧ i = .int .i64 k ∧ a = .int .i64 ((lowS a0 P k).1 : Nat) ∧ m = .int .i64 (lowS a0 P k).2) (fun _ _ i => P.length - (intOf i).toNat)
    case atStart => exact ⟨0, Nat.zero_le _, rfl, rfl, rfl⟩
    case round =>
      obtain ⟨k, hk, rfl, rfl, rfl⟩ := hrel
      by_cases hlt : k < P.length
      · have c1 := HAT.out k hlt
        have HY := Lib.hid (lowS_yes (n := a0) hlt)
        have HN := Lib.hid (lowS_no (n := a0) hlt HP1.out)
        obtain ⟨x, hx⟩ : ∃ x, x = P[k] := ⟨_, rfl⟩
        obtain ⟨m, hm⟩ : ∃ m, m = (lowS a0 P k).2 := ⟨_, rfl⟩
        obtain ⟨a, ha⟩ : ∃ a, a = (lowS a0 P k).1 := ⟨_, rfl⟩
        have HMA := Lib.hid (And.intro hm ha)
        rw [← hx] at c1 HY HN
        rw [← hm] at HY HN ⊢
        rw [← ha]
        have HX := Lib.hid hx
        clear hx hm ha
        by_cases hc : x < m
        · have HY2 := Lib.hid (HY.out hc)
          go_wp2
          go_round
          case rel => exact ⟨k + 1, by omega, by go_num, by rw [HY2.out], by rw [HY2.out]⟩
          case measure => simp [intOf]; omega
        · have HN2 := Lib.hid (HN.out hc)
          go_wp2
          go_round
          case rel => exact ⟨k + 1, by omega, by go_num, by rw [HN2.out, HMA.out.2], by rw [HN2.out, HMA.out.1]⟩
          case measure => simp [intOf]; omega
      · obtain rfl : k = P.length := by omega
        obtain ⟨m, hm⟩ : ∃ m, m = (lowS a0 P P.length).2 := ⟨_, rfl⟩
        obtain ⟨a, ha⟩ : ∃ a, a = (lowS a0 P P.length).1 := ⟨_, rfl⟩
        have HMA := Lib.hid (And.intro hm ha)
        rw [← hm, ← ha]
        clear hm ha
        go_wp2
        go_ret3
        exact ⟨ret_iib (by rw [HMA.out.2, HE.out]) (by rw [HMA.out.1, HE.out]) rfl, hb⟩
set_option maxRecDepth 20000 in
set_option maxHeartbeats 2000000 in
theorem implShortestPart_any (a0 : Int) (A1 : Option Addr) (c1 : Nat) (L1 : List Int) (w : World) (w0 : (Lit.int .i64 a0).wf = true) (l1 : L1.length ≤ 1048576) (f1 : WfL L1) (q1 : L1.length ≤ c1) (h1 : IntSl w A1 L1) :
    Calls Try.prog 31 #[.int .i64 a0, .slice A1 L1.length c1] w fun e w' => e = .returned (.tuple #[.int .i64 (shtA a0 L1), .int .i64 (shtB a0 L1), .bool (okGa a0 L1)]) ∧ Below w.heap.size w w' := by
  have HP := Lib.hid (implPartsOf_cap a0 A1 c1 L1 w w0 l1 f1 q1 h1)
  unfold shtA shtB
  cases hk : okGa a0 L1
  · rw [hk] at HP
    clear hk h1
    go_enter Try.func31, Try.ntmps31
    go_wp2_with fail
    refine HP.out.mono ?_
    rintro e w1 ⟨A, c, c', rfl, -, hb⟩
    go_wp2
    go_ret3
    exact ⟨rfl, hb⟩
  · rw [if_pos rfl, if_pos rfl]
    rw [hk, partsR_yes hk] at HP
    have hpl : (partL a0 L1).length ≤ 11 := by rw [partL_len]; have := (okGa_at hk).2.1; omega
    have hpp : 0 < (partL a0 L1).length := by rw [partL_len]; omega
    obtain ⟨P, hP⟩ : ∃ P, P = partL a0 L1 := ⟨_, rfl⟩
    rw [← hP] at HP hpl hpp ⊢
    have HZ := Lib.hid (idxZ_yes (minOf_mem hpp).1)
    clear hk h1 hP
    go_enter Try.func31, Try.ntmps31
    go_wp2_with fail
    refine HP.out.mono ?_
    rintro e w1 ⟨A, c, c', rfl, hown, hb⟩
    have HS := Lib.hid (IntSl.of_own hown)
    clear hown
    go_wp2_with fail
    refine (slMin_any A c P w1 hpp (by omega) HS.out).mono ?_
    rintro e w2 ⟨rfl, rfl⟩
    have HI := Lib.hid (slIdx_any A c P (Lib.minOf P) w1 (by omega) HS.out)
    obtain ⟨m, hm⟩ : ∃ m, m = Lib.minOf P := ⟨_, rfl⟩
    rw [← hm] at HI HZ ⊢
    have HMM := Lib.hid hm
    obtain ⟨z, hz⟩ : ∃ z, z = idxZ P m := ⟨_, rfl⟩
    rw [← hz] at HI HZ
    clear hm hz
    go_wp2_with fail
    refine HI.out.mono ?_
    rintro e w2 ⟨rfl, rfl⟩
    go_wp2
    go_ret3
    exact ⟨ret_iib (by rw [HZ.out, HMM.out]) HMM.out rfl, hb⟩
end Go.Proofs.Ytbocdhibimcobaa
